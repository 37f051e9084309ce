/-
  THE WALK of the program's value.isFormed at a record; at whatever value.
-/
import Derived.Test.YtiajclmhimkpnaaDoorBVForm
namespace Go.Proofs.YtiajclmhimkpnaaDoor
open Go.RowKit

set_option maxRecDepth 100000 in
set_option maxHeartbeats 4000000 in
theorem Vm.formed6 (x : Int) (b : Nat) (s : ByteArray) (ai : Option Addr) (n c : Nat) (m : Nat) (ks : Nat → ByteArray) (ak : Option Addr) (d : Nat) (R : Nat → Prop) (w : World) (hR : ∀ g, R g → g < w.heap.size) (h : Vt.Keys w R m ks ak d) :
    Calls Tryd.prog 46 #[.agg #[.int .i64 6, .int .i64 x, .int .u64 (b : Int), .string s, .slice ai n c, .slice ak m d]] w fun e w' => e = .returned (.bool (Vt.formed 6 x b s n m ks)) ∧ Below w.heap.size w w' := by
  by_cases hn : n ≤ 64
  · have hn' : decide ((n : Int) ≤ 64) = true := decide_eq_true (by omega)
    by_cases hmn : m = n
    · have hmn' : ((m : Int) == (n : Int)) = true := beq_iff_eq.2 (by omega)
      have HM := Lib.hid hmn
      clear hmn
      generalize hK : Vt.keysOk ks m = K
      have HK := Lib.hid hK
      clear hK
      go_enter Tryd.func46, Tryd.ntmps46
      go_wp2_with fail
      refine (Vm.keys m ks ak d (fun g => g < w.heap.size) _ (h.on fun g hg => ⟨hR g hg, Below.heap_alloc _ _ _ (hR g hg)⟩)).mono ?_
      rintro e w' ⟨rfl, rfl⟩
      rw [HK.out]
      clear h hR
      cases K
      all_goals go_wp2
      all_goals go_ret
      all_goals refine ⟨?_, (by repeat (first | exact Below.refl _ _ | refine Below.setCell ?_ (by simp) _ | refine Below.alloc ?_ (by simp) _))⟩
      all_goals have hk := HK.out
      all_goals have hm := HM.out
      all_goals subst hm
      all_goals simp_all [Vt.formed]
    · have hmn' : ((m : Int) == (n : Int)) = false := beq_eq_false_iff_ne.2 (by omega)
      go_enter Tryd.func46, Tryd.ntmps46
      go_wp2
      go_ret
      refine ⟨?_, (by repeat (first | exact Below.refl _ _ | refine Below.setCell ?_ (by simp) _ | refine Below.alloc ?_ (by simp) _))⟩
      simp_all [Vt.formed]
  · have hn' : decide ((n : Int) ≤ 64) = false := decide_eq_false (by omega)
    go_enter Tryd.func46, Tryd.ntmps46
    go_wp2
    go_ret
    refine ⟨?_, (by repeat (first | exact Below.refl _ _ | refine Below.setCell ?_ (by simp) _ | refine Below.alloc ?_ (by simp) _))⟩
    simp_all [Vt.formed]
    intros
    omega

theorem Vm.formed (k x : Int) (b : Nat) (s : ByteArray) (ai : Option Addr) (n c : Nat) (m : Nat) (ks : Nat → ByteArray) (ak : Option Addr) (d : Nat) (R : Nat → Prop) (w : World) (hR : ∀ g, R g → g < w.heap.size) (h : Vt.Keys w R m ks ak d) :
    Calls Tryd.prog 46 #[.agg #[.int .i64 k, .int .i64 x, .int .u64 (b : Int), .string s, .slice ai n c, .slice ak m d]] w fun e w' => e = .returned (.bool (Vt.formed k x b s n m ks)) ∧ Below w.heap.size w w' := by
  by_cases k0 : k = 0
  · subst k0; exact Vm.formed0 x b s ai n c m ks ak d w
  by_cases k1 : k = 1
  · subst k1; exact Vm.formed1 x b s ai n c m ks ak d w
  by_cases k2 : k = 2
  · subst k2; exact Vm.formed2 x b s ai n c m ks ak d w
  by_cases k3 : k = 3
  · subst k3; exact Vm.formed3 x b s ai n c m ks ak d w
  by_cases k4 : k = 4
  · subst k4; exact Vm.formed4 x b s ai n c m ks ak d w
  by_cases k5 : k = 5
  · subst k5; exact Vm.formed5 x b s ai n c m ks ak d w
  by_cases k6 : k = 6
  · subst k6; exact Vm.formed6 x b s ai n c m ks ak d R w hR h
  exact Vm.formedN k k0 k1 k2 k3 k4 k5 k6 x b s ai n c m ks ak d w
end Go.Proofs.YtiajclmhimkpnaaDoor
/-
  THE WALKS of the program's value.mayStand and May.
-/
namespace Go.Proofs.YtiajclmhimkpnaaDoor
open Go.RowKit

/-- nothing that was there has turned but the number in block p, which is L now -/
structure Vm.Step (p : Nat) (L : Int) (w w' : World) : Prop where
  os : w'.os = w.os
  tape : w'.tape = w.tape
  output : w'.output = w.output
  size : w.heap.size ≤ w'.heap.size
  block : ∀ k, k < w.heap.size → k ≠ p → w'.heap[k]? = w.heap[k]?
  cell : w'.heap[p]? = some (.cells #[.int .i64 L] 3)
theorem Vm.Step.at {p : Nat} {L : Int} {w w' : World} (h : Vm.Step p L w w') : w'.cell? ⟨p, 0, none⟩ = some (.int .i64 L) := by
  unfold World.cell?
  rw [h.cell]
  rfl
theorem Vm.Step.frozen {p : Nat} {L : Int} {w w' : World} (h : Vm.Step p L w w') : w'.frozen? ⟨p, 0, none⟩ = false := by
  unfold World.frozen?
  rw [h.cell]
  rfl
theorem Vm.Step.trans {p : Nat} {L M : Int} {w w' w'' : World} (h : Vm.Step p L w w') (g : Vm.Step p M w' w'') : Vm.Step p M w w'' :=
  ⟨g.os.trans h.os, g.tape.trans h.tape, g.output.trans h.output, Nat.le_trans h.size g.size, fun k hk hp => (g.block k (Nat.lt_of_lt_of_le hk h.size) hp).trans (h.block k hk hp), g.cell⟩
theorem Vm.Step.below {p : Nat} {L : Int} {w w' w'' : World} (h : Vm.Step p L w w') (hp : p < w.heap.size) (g : Below w'.heap.size w' w'') : Vm.Step p L w w'' :=
  ⟨g.os.trans h.os, g.tape.trans h.tape, g.output.trans h.output, Nat.le_trans h.size g.size, fun k hk hq => (g.block k (Nat.lt_of_lt_of_le hk h.size)).trans (h.block k hk hq), (g.block p (Nat.lt_of_lt_of_le hp h.size)).trans h.cell⟩
theorem Vm.Step.lies {p : Nat} {L : Int} {w w' : World} (h : Vm.Step p L w w') (hp : p ≤ w.heap.size) {t : Vt} {v : Value} (hl : t.Lies w (· < p) v) : t.Lies w' (· < p) v :=
  hl.on fun k hk => ⟨hk, h.block k (Nat.lt_of_lt_of_le hk hp) (Nat.ne_of_lt hk)⟩
/-- the number set anew, and a new block -/
theorem Vm.Step.start {p : Nat} {L M : Int} {w : World} (o : Obj) (hp : p < w.heap.size) (h : w.heap[p]? = some (.cells #[.int .i64 L] 3)) : Vm.Step p M w ((w.setCell ⟨p, 0, none⟩ (.int .i64 M)).alloc o) := by
  have hs : (w.setCell ⟨p, 0, none⟩ (.int .i64 M)).heap.size = w.heap.size := by simp
  refine ⟨rfl, rfl, rfl, ?_, fun k hk hq => ?_, ?_⟩
  · simp
  · rw [Below.heap_alloc _ _ _ (by rw [hs]; exact hk), Below.heap_setCell _ _ _ _ hq]
  · rw [Below.heap_alloc _ _ _ (by rw [hs]; exact hp)]
    show (w.heap.modify p _)[p]? = _
    rw [Array.getElem?_modify, if_pos rfl, h]
    rfl

theorem Vm.boxed {w w1 : World} {cs : Array Value} {ty : TypeId} (h : Below (w.alloc (.cells cs ty)).heap.size (w.alloc (.cells cs ty)) w1) : w1.heap[w.heap.size]? = some (.cells cs ty) := by
  rw [h.block _ (by simp)]
  show (w.heap.push _)[w.heap.size]? = _
  simp
theorem Vm.boxCell {w1 : World} {g : Nat} {cs : Array Value} {ty : TypeId} (h : w1.heap[g]? = some (.cells cs ty)) (i : Nat) {v : Value} (hv : cs[i]? = some v) : w1.cell? ⟨g, i, none⟩ = some v := by
  unfold World.cell?
  rw [h]
  exact hv

theorem Vm.leftTo_of {it : Nat → Vt} {deep L : Int} (ih : ∀ i (deep L : Int), ((it i).stand deep L).1 = true → 0 ≤ ((it i).stand deep L).2 ∧ ((it i).stand deep L).2 ≤ L - 1) (hc : ¬ L - 1 < 0) : ∀ i, (Vt.run (fun i L => (it i).stand (deep + 1) L) i (L - 1)).1 = true → 0 ≤ (Vt.run (fun i L => (it i).stand (deep + 1) L) i (L - 1)).2 ∧ (Vt.run (fun i L => (it i).stand (deep + 1) L) i (L - 1)).2 ≤ L - 1 := by
  intro i
  induction i with
  | zero => intro _; exact ⟨by simp [Vt.run]; omega, by simp [Vt.run]⟩
  | succ i ihi =>
    intro hi
    cases hr : (Vt.run (fun i L => (it i).stand (deep + 1) L) i (L - 1)).1 with
    | false => rw [Vt.run, hr] at hi; simp [hr] at hi
    | true =>
      have h1 := ihi hr
      rw [Vt.run, hr, if_pos rfl] at hi
      have h2 := ih i _ _ hi
      rw [Vt.run, hr, if_pos rfl]
      omega
theorem Vm.left : ∀ (t : Vt) (deep L : Int), (t.stand deep L).1 = true → 0 ≤ (t.stand deep L).2 ∧ (t.stand deep L).2 ≤ L - 1 := by
  intro t
  induction t with
  | nil => intro deep L h; cases h
  | mk k x b s n it m ks ih =>
    intro deep L h
    unfold Vt.stand at h ⊢
    split at h
    · cases h
    · next hc =>
      rw [if_neg hc]
      exact Vm.leftTo_of ih (fun h => hc (.inl h)) n h
theorem Vm.leftTo (it : Nat → Vt) (deep L : Int) (hc : ¬ L - 1 < 0) (i : Nat) (h : (Vt.run (fun i L => (it i).stand (deep + 1) L) i (L - 1)).1 = true) : 0 ≤ (Vt.run (fun i L => (it i).stand (deep + 1) L) i (L - 1)).2 ∧ (Vt.run (fun i L => (it i).stand (deep + 1) L) i (L - 1)).2 ≤ L - 1 :=
  Vm.leftTo_of (fun i => Vm.left (it i)) hc i h
set_option maxRecDepth 100000 in
set_option maxHeartbeats 4000000 in
theorem Vm.stand : ∀ (t : Vt) (v : Value) (deep L : Int) (p : Nat) (w : World), t.Lies w (· < p) v → p < w.heap.size → w.heap[p]? = some (.cells #[.int .i64 L] 3) → 0 ≤ deep → deep ≤ 9 → 0 ≤ L → L ≤ 1024 →
    Calls Tryd.prog 33 #[v, .int .i64 deep, .pointer (some ⟨p, 0, none⟩)] w fun e w' => e = .returned (.bool (t.stand deep L).1) ∧ Vm.Step p (t.stand deep L).2 w w' := by
  intro t
  induction t with
  | nil => intro v deep L p w h; exact h.elim
  | mk k x b s n it m ks ih =>
    rintro v deep L p w ⟨ai, c, ak, d, rfl, hb, hn, hc, hk, hi⟩ hp hL hd0 hd9 hl0 hl1
    have HI : Hid (∀ i : Nat, ∀ (v : Value) (deep L : Int) (p : Nat) (w : World), (it i).Lies w (· < p) v → p < w.heap.size → w.heap[p]? = some (.cells #[.int .i64 L] 3) → 0 ≤ deep → deep ≤ 9 → 0 ≤ L → L ≤ 1024 →
      Calls Tryd.prog 33 #[v, .int .i64 deep, .pointer (some ⟨p, 0, none⟩)] w fun e w' => e = .returned (.bool ((it i).stand deep L).1) ∧ Vm.Step p ((it i).stand deep L).2 w w') := ih
    have hcl : w.cell? ⟨p, 0, none⟩ = some (.int .i64 L) := by unfold World.cell?; rw [hL]; rfl
    have hfz : w.frozen? ⟨p, 0, none⟩ = false := by unfold World.frozen?; rw [hL]; rfl
    have HL := Lib.hid hL
    have HC := Lib.hid hi
    have HN : Hid ((Vt.mk k x b s n it m ks).stand deep L = if L - 1 < 0 ∨ 8 < deep ∨ Vt.formed k x b s n m ks = false then (false, L - 1) else Vt.run (fun i L => (it i).stand (deep + 1) L) n (L - 1)) := by
      unfold Hid; rw [Vt.stand]
    clear ih hL hi
    generalize hZ : (Vt.mk k x b s n it m ks).stand deep L = Z at *
    clear hZ
    have hpf : ∀ o, (w.alloc o).frozen? ⟨p, 0, none⟩ = false := fun o => by rw [World.frozen?_alloc_old _ _ _ (Nat.ne_of_lt hp)]; exact hfz
    by_cases g1 : L - 1 < 0
    · have g1' : decide (L - 1 < 0) = true := decide_eq_true g1
      have HZ : Hid (Z = (false, L - 1)) := by have := HN.out; rw [if_pos (.inl g1)] at this; exact this
      clear HN HI
      go_enter Tryd.func33, Tryd.ntmps33
      go_wp2
      go_ret
      rw [HZ.out]
      exact ⟨rfl, Vm.Step.start _ hp HL.out⟩
    have g1' : decide (L - 1 < 0) = false := decide_eq_false g1
    by_cases g2 : 8 < deep
    · have g2' : decide (8 < deep) = true := decide_eq_true g2
      have HZ : Hid (Z = (false, L - 1)) := by have := HN.out; rw [if_pos (.inr (.inl g2))] at this; exact this
      clear HN HI
      go_enter Tryd.func33, Tryd.ntmps33
      go_wp2
      go_ret
      rw [HZ.out]
      exact ⟨rfl, Vm.Step.start _ hp HL.out⟩
    have g2' : decide (8 < deep) = false := decide_eq_false g2
    have ST := Vm.Step.start (M := L - 1) (.cells #[.int .i64 k, .int .i64 x, .int .u64 (b : Int), .string s, .slice ai n c, .slice ak m d] 29) hp HL.out
    have hk' : Vt.Keys ((w.setCell ⟨p, 0, none⟩ (.int .i64 (L - 1))).alloc (.cells #[.int .i64 k, .int .i64 x, .int .u64 (b : Int), .string s, .slice ai n c, .slice ak m d] 29)) (· < p) m ks ak d := hk.on fun g hg => ⟨hg, ST.block g (Nat.lt_trans hg hp) (Nat.ne_of_lt hg)⟩
    go_enter Tryd.func33, Tryd.ntmps33
    go_wp2_with fail
    refine (Vm.formed k x b s ai n c m ks ak d (· < p) _ (fun g hg => ?_) hk').mono ?_
    · simp
      omega
    rintro e w1 ⟨rfl, hw1⟩
    have S1 := ST.below hp hw1
    have hbx : w1.cell? ⟨w.heap.size, 4, none⟩ = some (.slice ai n c) := Vm.boxCell (by have := Vm.boxed hw1; simpa using this) 4 rfl
    clear hw1 ST hk' hpf hfz hcl
    cases hf : Vt.formed k x b s n m ks with
    | false =>
      have HZ : Hid (Z = (false, L - 1)) := by have := HN.out; rw [if_pos (.inr (.inr hf))] at this; exact this
      clear HN HI hf
      go_wp2
      go_ret
      rw [HZ.out]
      exact ⟨rfl, S1⟩
    | true =>
      have HZ : Hid (Z = Vt.run (fun i L => (it i).stand (deep + 1) L) n (L - 1)) := by
        have := HN.out
        rw [if_neg (by rintro (h | h | h); omega; omega; rw [hf] at h; cases h)] at this
        exact this
      clear HN hf
      have hn' : n ≤ 9223372036854775807 := by unfold maxLen at hc; omega
      go_wp2_with fail
      go_loopw [30] (fun ix wr => ∃ i : Nat, i ≤ n ∧ ix = .int .i64 i ∧ Hid ((Vt.run (fun i L => (it i).stand (deep + 1) L) i (L - 1)).1 = true) ∧ Vm.Step p (Vt.run (fun i L => (it i).stand (deep + 1) L) i (L - 1)).2 w wr) (fun ix _ => n - (intOf ix).toNat)
      case atStart => exact ⟨0, Nat.zero_le _, by go_num, rfl, S1⟩
      case round =>
        obtain ⟨i, hin, rfl, HT, SR⟩ := hrel
        clear S1 hbx
        by_cases hlt : i < n
        · obtain ⟨bi, oi, v0, v1, v2, v3, v4, v5, rfl, hbi, c0, c1, c2, c3, c4, c5, hli⟩ := HC.out i hlt
          have hic : i < c := Nat.lt_of_lt_of_le hlt hn
          have hbl : wr.heap[bi]? = w.heap[bi]? := SR.block bi (Nat.lt_trans hbi hp) (Nat.ne_of_lt hbi)
          replace c0 := Vt.cell_on hbl c0
          replace c1 := Vt.cell_on hbl c1
          replace c2 := Vt.cell_on hbl c2
          replace c3 := Vt.cell_on hbl c3
          replace c4 := Vt.cell_on hbl c4
          replace c5 := Vt.cell_on hbl c5
          obtain ⟨k', x', b', s', ai', n', c', ak', m', d', rfl, rfl, rfl, rfl, rfl, rfl⟩ := hli.cells
          have HLI := Lib.hid hli
          clear hbl hli
          have SA : ∀ o, Vm.Step p (Vt.run (fun i L => (it i).stand (deep + 1) L) i (L - 1)).2 w (wr.alloc o) := fun o => SR.below hp ((Below.refl _ _).alloc (Nat.le_refl _) o)
          have hrg : 0 ≤ (Vt.run (fun i L => (it i).stand (deep + 1) L) i (L - 1)).2 ∧ (Vt.run (fun i L => (it i).stand (deep + 1) L) i (L - 1)).2 ≤ L - 1 := Vm.leftTo it deep L (by omega) i HT.out
          have HU : Hid (Vt.run (fun i L => (it i).stand (deep + 1) L) (i + 1) (L - 1) = (it i).stand (deep + 1) (Vt.run (fun i L => (it i).stand (deep + 1) L) i (L - 1)).2) := by
            unfold Hid
            rw [Vt.run, HT.out, if_pos rfl]
          generalize (Vt.run (fun i L => (it i).stand (deep + 1) L) i (L - 1)).2 = M at *
          clear SR
          go_wp2_with fail
          refine (HI.out i _ (deep + 1) M p _ ?_ ?_ ?_ ?_ ?_ ?_ ?_).mono ?_
          · exact (SA _).lies (Nat.le_of_lt hp) HLI.out
          · exact Nat.lt_of_lt_of_le hp (SA _).size
          · exact (SA _).cell
          · omega
          · omega
          · omega
          · omega
          rintro e w2 ⟨rfl, S2⟩
          have S3 := (SA _).trans S2
          rw [← HU.out] at S3 ⊢
          clear S2 SA HU
          cases hr : (Vt.run (fun i L => (it i).stand (deep + 1) L) (i + 1) (L - 1)).1 with
          | false =>
            have HZ2 : Hid (Z = Vt.run (fun i L => (it i).stand (deep + 1) L) (i + 1) (L - 1)) := HZ.out.trans (Vt.run_no hr n hlt)
            have HR := Lib.hid hr
            clear hr
            go_wp2
            go_ret
            rw [HZ2.out, HR.out]
            exact ⟨rfl, S3⟩
          | true =>
            have HR := Lib.hid hr
            clear hr
            go_wp2
            refine ⟨⟨i + 1, hlt, by go_num, HR, S3⟩, ?_⟩
            simp [intOf]
            omega
        · have e : i = n := by omega
          subst e
          go_wp2
          go_ret
          rw [HZ.out, HT.out]
          exact ⟨rfl, SR⟩
/-- the root's own form -/
theorem Vt.Lies.form {w : World} {R : Nat → Prop} {t : Vt} {v : Value} (h : t.Lies w R v) : ∃ (k x : Int) (b : Nat) (s : ByteArray) (ai : Option Addr) (n c : Nat) (ak : Option Addr) (m d : Nat), v = .agg #[.int .i64 k, .int .i64 x, .int .u64 (b : Int), .string s, .slice ai n c, .slice ak m d] := by
  cases t with
  | nil => exact h.elim
  | mk k x b s n it m ks =>
    obtain ⟨ai, c, ak, d, e, _⟩ := h
    exact ⟨k, x, b, s, ai, n, c, ak, m, d, e⟩

set_option maxRecDepth 100000 in
theorem Vm.may (t : Vt) (v : Value) (w : World) (h : t.Lies w (· < w.heap.size) v) : Calls Tryd.prog 20 #[v] w fun e w' => e = .returned (.bool t.may) ∧ Below w.heap.size w w' := by
  obtain ⟨k, x, b, s, ai, n, c, ak, m, d, rfl⟩ := h.form
  have H := Lib.hid h
  clear h
  have HM : Hid ((t.stand 1 1024).1 = t.may) := rfl
  go_enter Tryd.func20, Tryd.ntmps20
  go_wp2_with fail
  refine (Vm.stand t _ 1 1024 (w.heap.size + 1) _ ?_ ?_ ?_ (by decide) (by decide) (by decide) (by decide)).mono ?_
  · exact H.out.on fun g hg => ⟨Nat.lt_succ_of_lt hg, by rw [Below.heap_alloc _ _ _ (by simp; omega), Below.heap_alloc _ _ _ hg]⟩
  · simp
  · show ((w.heap.push _).push _)[w.heap.size + 1]? = _
    rw [Array.getElem?_push, if_pos (by simp)]
  rintro e w1 ⟨rfl, S⟩
  rw [HM.out]
  have hb : Below w.heap.size w w1 := ⟨S.os, S.tape, S.output, Nat.le_trans (by simp; omega) S.size, fun g hg => by rw [S.block g (by simp; omega) (by omega), Below.heap_alloc _ _ _ (by simp; omega), Below.heap_alloc _ _ _ hg]⟩
  clear S H HM
  go_wp2
  go_ret
  exact ⟨rfl, hb⟩
end Go.Proofs.YtiajclmhimkpnaaDoor
/-
  THE WALK of stolelaw0.SpoilTexts: a text in its cell becomes another text; nothing else turns.
-/
import Derived.Test.YtjppobeomocgbaaGreatDoorTOPlaintoIArgMay
import Derived.Test.YtjppobeomocgbaaGreatDoorTMPlaintoISame
import Derived.RegionTactic
import Derived.Test.YtjppobeomocgbaaGreatDoorTKArgMay
import Derived.Test.YtjppobeomocgbaaGreatDoorTGDatatoGCopy
import Derived.Test.YtjppobeomocgbaaGreatDoorTICmd
import Derived.Deep.RegionWith
namespace Go.Proofs.YtjppobeomocgbaaGreatDoor
open Go.RowKit
/-- texts of blocks of R have turned into texts of at most n bytes more, numbers into numbers; nothing else has turned -/
structure Sw.Rel (R : Nat → Prop) (n : Nat) (w w' : World) : Prop where
  os : w'.os = w.os
  tape : w'.tape = w.tape
  output : w'.output = w.output
  size : w'.heap.size = w.heap.size
  out : ∀ k, ¬ R k → w'.heap[k]? = w.heap[k]?
  str : ∀ b o (s : ByteArray), w.cell? ⟨b, o, none⟩ = some (.string s) → ∃ s' : ByteArray, w'.cell? ⟨b, o, none⟩ = some (.string s') ∧ s'.size ≤ s.size + n
  num : ∀ b o (x : Int), w.cell? ⟨b, o, none⟩ = some (.int .i64 x) → ∃ y : Int, w'.cell? ⟨b, o, none⟩ = some (.int .i64 y)
  row : ∀ b o a m d, w.cell? ⟨b, o, none⟩ = some (.slice a m d) → w'.cell? ⟨b, o, none⟩ = some (.slice a m d)
  fz : ∀ b o, w'.frozen? ⟨b, o, none⟩ = w.frozen? ⟨b, o, none⟩
theorem Sw.Rel.refl (R : Nat → Prop) (w : World) : Sw.Rel R 0 w w := ⟨rfl, rfl, rfl, rfl, fun _ _ => rfl, fun _ _ s h => ⟨s, h, Nat.le_refl _⟩, fun _ _ x h => ⟨x, h⟩, fun _ _ _ _ _ h => h, fun _ _ => rfl⟩
theorem Sw.Rel.trans {R : Nat → Prop} {n m : Nat} {w w1 w2 : World} (h : Sw.Rel R n w w1) (g : Sw.Rel R m w1 w2) : Sw.Rel R (n + m) w w2 :=
  ⟨g.os.trans h.os, g.tape.trans h.tape, g.output.trans h.output, g.size.trans h.size, fun k hk => (g.out k hk).trans (h.out k hk), fun b o s hs => by
    obtain ⟨s1, h1, l1⟩ := h.str b o s hs
    obtain ⟨s2, h2, l2⟩ := g.str b o s1 h1
    exact ⟨s2, h2, by omega⟩, fun b o x hx => by
    obtain ⟨y, hy⟩ := h.num b o x hx
    exact g.num b o y hy, fun b o a m d hv => g.row b o a m d (h.row b o a m d hv), fun b o => (g.fz b o).trans (h.fz b o)⟩
theorem Sw.Rel.wide {R : Nat → Prop} {n m : Nat} {w w1 : World} (h : Sw.Rel R n w w1) (hm : n ≤ m) : Sw.Rel R m w w1 :=
  ⟨h.os, h.tape, h.output, h.size, h.out, fun b o s hs => by
    obtain ⟨s1, h1, l1⟩ := h.str b o s hs
    exact ⟨s1, h1, by omega⟩, h.num, h.row, h.fz⟩
theorem Sw.Rel.drewN {R : Nat → Prop} {n : Nat} {w w1 : World} (h : Sw.Rel R n w w1) (q : Nat) : Sw.Rel R n w (w1.drewN q) := ⟨h.os, h.tape, h.output, h.size, h.out, h.str, h.num, h.row, h.fz⟩
theorem Sw.other {w : World} {b o : Nat} {v : Value} {b1 o1 : Nat} (hn : ¬ (b1 = b ∧ o1 = o)) : (w.setCell ⟨b, o, none⟩ v).cell? ⟨b1, o1, none⟩ = w.cell? ⟨b1, o1, none⟩ :=
  World.cell?_setCell_other _ _ _ _ (fun e => hn (by injection e with e1 e2 e3; exact ⟨e1.symm, e2.symm⟩))
theorem Sw.set {R : Nat → Prop} {w : World} {b o : Nat} {s s' : ByteArray} (hb : R b) (hc : w.cell? ⟨b, o, none⟩ = some (.string s)) (hs : s'.size ≤ s.size + 1) : Sw.Rel R 1 w (w.setCell ⟨b, o, none⟩ (.string s')) := by
  have hself : (w.setCell ⟨b, o, none⟩ (.string s')).cell? ⟨b, o, none⟩ = some (.string s') := by simp [go_sem, hc]
  refine ⟨rfl, rfl, rfl, by simp, fun k hk => Below.heap_setCell _ _ _ _ (fun e => hk (by rw [e]; exact hb)), fun b1 o1 s1 h1 => ?_, fun b1 o1 x h1 => ?_, fun b1 o1 a m d h1 => ?_, fun _ _ => by rw [World.frozen?_setCell]⟩
  all_goals by_cases e : b1 = b ∧ o1 = o
  · obtain ⟨rfl, rfl⟩ := e
    rw [hc] at h1
    injection h1 with h1
    injection h1 with h1
    exact ⟨s', hself, by rw [← h1]; exact hs⟩
  · exact ⟨s1, (Sw.other e).trans h1, by omega⟩
  · obtain ⟨rfl, rfl⟩ := e
    rw [hc] at h1
    cases h1
  · exact ⟨x, (Sw.other e).trans h1⟩
  · obtain ⟨rfl, rfl⟩ := e
    rw [hc] at h1
    cases h1
  · exact (Sw.other e).trans h1
theorem Sw.setN {R : Nat → Prop} {w : World} {b o : Nat} {x y : Int} (hb : R b) (hc : w.cell? ⟨b, o, none⟩ = some (.int .i64 x)) : Sw.Rel R 0 w (w.setCell ⟨b, o, none⟩ (.int .i64 y)) := by
  have hself : (w.setCell ⟨b, o, none⟩ (.int .i64 y)).cell? ⟨b, o, none⟩ = some (.int .i64 y) := by simp [go_sem, hc]
  refine ⟨rfl, rfl, rfl, by simp, fun k hk => Below.heap_setCell _ _ _ _ (fun e => hk (by rw [e]; exact hb)), fun b1 o1 s1 h1 => ?_, fun b1 o1 x1 h1 => ?_, fun b1 o1 a m d h1 => ?_, fun _ _ => by rw [World.frozen?_setCell]⟩
  all_goals by_cases e : b1 = b ∧ o1 = o
  · obtain ⟨rfl, rfl⟩ := e
    rw [hc] at h1
    cases h1
  · exact ⟨s1, (Sw.other e).trans h1, Nat.le_refl _⟩
  · obtain ⟨rfl, rfl⟩ := e
    exact ⟨y, hself⟩
  · exact ⟨x1, (Sw.other e).trans h1⟩
  · obtain ⟨rfl, rfl⟩ := e
    rw [hc] at h1
    cases h1
  · exact (Sw.other e).trans h1
/-- a row of texts of at most L bytes that may be written -/
def Sw.Txts (w : World) (R : Nat → Prop) (a : Option Addr) (m L : Nat) : Prop := ∀ j, j < m → ∃ b o, ∃ s : ByteArray, a = some ⟨b, o, none⟩ ∧ R b ∧ (∀ q, w.frozen? ⟨b, q, none⟩ = false) ∧ w.cell? ⟨b, o + j, none⟩ = some (.string s) ∧ s.size ≤ L
theorem Sw.Txts.on {w w' : World} {R : Nat → Prop} {a : Option Addr} {m L n : Nat} (h : Sw.Txts w R a m L) (g : Sw.Rel R n w w') : Sw.Txts w' R a m (L + n) := fun j hj => by
  obtain ⟨b, o, s, e, hb, hf, hc, hs⟩ := h j hj
  obtain ⟨s', hc', hs'⟩ := g.str _ _ _ hc
  exact ⟨b, o, s', e, hb, fun q => (g.fz _ _).trans (hf q), hc', by omega⟩
set_option maxHeartbeats 2000000 in
theorem Sw.texts (R : Nat → Prop) (a : Option Addr) (m d L : Nat) (w : World) (h : Sw.Txts w R a m L) (hm : m ≤ 1000000) (hd : m ≤ d) (hL : L ≤ 4611686018427387904) :
    Calls Tryz.prog 39 #[.slice a m d] w fun e w' => e = .returned (.tuple #[]) ∧ Sw.Rel R m w w' := by
  have H := Lib.hid h
  clear h
  go_enter Tryz.func39, Tryz.ntmps39
  go_wp2
  go_loopw [2] (fun ix wr => ∃ j : Nat, j ≤ m ∧ ix = .int .i64 (j : Int) ∧ Hid (Sw.Rel R j w wr)) (fun ix _ => m - (intOf ix).toNat)
  case atStart => exact ⟨0, Nat.zero_le _, by go_num, Sw.Rel.refl _ _⟩
  case round =>
    obtain ⟨j, hj, rfl, HR⟩ := hrel
    by_cases hlt : j < m
    · obtain ⟨b, o, s, rfl, hb, hf, hc, hs⟩ := (H.out.on HR.out) j hlt
      have d1 : decide ((j : Int) < (m : Int)) = true := decide_eq_true (by omega)
      have hjd : j < d := by omega
      have hsz : ((⟨#[126]⟩ : ByteArray) ++ s).size = s.size + 1 := by rw [ByteArray.size_append]; show 1 + s.size = _; omega
      obtain ⟨s', hs'⟩ : ∃ s' : ByteArray, (⟨#[126]⟩ : ByteArray) ++ s = s' := ⟨_, rfl⟩
      rw [hs'] at hsz
      have HN := Lib.hid (HR.out.trans (Sw.set (s' := s') hb hc (by omega)))
      have hz : s.size ≤ 4611686018428387904 := by omega
      clear H hs
      go_wp2
      go_roundw
      case rel => exact ⟨j + 1, by omega, by go_num, HN.out⟩
      case measure => simp [intOf]; omega
    · have e : j = m := by omega
      subst e
      have d1 : decide ((j : Int) < (j : Int)) = false := decide_eq_false (by omega)
      go_wp2
      go_end0
      exact ⟨rfl, HR.out⟩
end Go.Proofs.YtjppobeomocgbaaGreatDoor
/-
  THE WALK of stolelaw0.SpoilPipe: texts become texts, numbers numbers, in the pipe's own blocks; nothing else turns.
-/
namespace Go.Proofs.YtjppobeomocgbaaGreatDoor
open Go.RowKit
/-- a pipe as it is answered: few commands, arguments, names; texts of at most L bytes -/
def Cm.Few (cs : List Cm) (L : Nat) : Prop := cs.length ≤ 8 ∧ ∀ c ∈ cs, c.fn.length ≤ L ∧ c.args.length ≤ 8 ∧ ∀ x ∈ c.args, x.path.length ≤ 8 ∧ ∀ t ∈ x.path, t.length ≤ L
theorem Sw.Txts.of {w : World} {R : Nat → Prop} {ts : List (List UInt8)} {a : Option Addr} {n d L : Nat} (h : St.Lies w R ts (.slice a n d)) (hU : ∀ k, R k → Rm.Ub w k) (hL : ∀ t ∈ ts, t.length ≤ L) : Sw.Txts w R a n L := by
  obtain ⟨a', d', e, h1, h2, hx⟩ := h
  injection e with e1 e2 e3
  subst e1 e2
  intro j hj
  obtain ⟨b, o, ea, hb, c⟩ := hx j ts[j] (List.getElem?_eq_getElem hj)
  exact ⟨b, o, _, ea, hb, fun q => hU b hb q, c, by show ts[j].toArray.size ≤ L; rw [List.size_toArray]; exact hL _ (List.getElem_mem hj)⟩
theorem Sw.drew1 {R : Nat → Prop} {n : Nat} {w w1 : World} (h : Sw.Rel R n w w1) : Sw.Rel R n w w1.drew := ⟨h.os, h.tape, h.output, h.size, h.out, h.str, h.num, h.row, h.fz⟩
set_option maxRecDepth 100000 in
set_option maxHeartbeats 4000000 in
theorem Sy.pipeR (cs : List Cm) (v : Value) (R : Nat → Prop) (L n : Nat) (w wu : World) (h : Dt.Lies w R (Cm.rows cs) v) (hU : ∀ k, R k → Rm.Ub w k) (hz : Cm.Few cs L) (hL : L + n ≤ 1152921504606846976) (hr : Sw.Rel R n w wu) :
    Calls Tryz.prog 21 #[v] wu fun e w' => e = .returned (.tuple #[]) ∧ Sw.Rel R (n + 1000) w w' := by
  obtain ⟨a, d, rfl, hd, hm, hx⟩ := Cm.get h
  obtain ⟨hn, hz⟩ := hz
  have HX := Lib.hid hx
  have HZ := Lib.hid hz
  have HU := Lib.hid hU
  have HRR := Lib.hid hr
  clear hx hz h hm hU hr
  go_enter Tryz.func21, Tryz.ntmps21
  go_wp2_with fail
  go_loopw [2] (fun iv wr => ∃ i : Nat, i ≤ cs.length ∧ iv = .int .i64 (i : Int) ∧ Hid (Sw.Rel R (n + i * 65) w wr)) (fun iv _ => cs.length - (intOf iv).toNat)
  case atStart => exact ⟨0, Nat.zero_le _, rfl, by unfold Hid; rw [Nat.zero_mul]; exact HRR.out⟩
  case round =>
    obtain ⟨i, hi, rfl, HR⟩ := hrel
    by_cases hlt : i < cs.length
    · have dlt : decide ((i : Int) < (cs.length : Int)) = true := decide_eq_true (by omega)
      obtain ⟨b, o, av, rfl, hb, c0, c1, hl⟩ := HX.out i cs[i] (List.getElem?_eq_getElem hlt)
      have hzc := HZ.out cs[i] (List.getElem_mem hlt)
      obtain ⟨a3, d3, rfl, hd3, hm3, hx3⟩ := Ar.get hl
      have hid : i < d := by omega
      generalize cs[i] = c at *
      have HX3 := Lib.hid hx3
      have HZC := Lib.hid hzc.2.2
      have hac := hzc.2.1
      have hfl := hzc.1
      clear hx3 hl hzc hm3
      go_wp2_with fail
      go_loopw [3] (fun jv wr => ∃ j : Nat, j ≤ c.args.length ∧ jv = .int .i64 (j : Int) ∧ Hid (Sw.Rel R (n + i * 65 + j * 8) w wr)) (fun jv _ => c.args.length - (intOf jv).toNat)
      case atStart => exact ⟨0, Nat.zero_le _, rfl, HR⟩
      case round =>
        clear HR
        obtain ⟨j, hj, rfl, HR⟩ := hrel
        have k1 := HR.out.row _ _ _ _ _ c1
        by_cases hjl : j < c.args.length
        · have dlj : decide ((j : Int) < (c.args.length : Int)) = true := decide_eq_true (by omega)
          obtain ⟨b3, o3, pv3, rfl, hb3, x0, x1, x2, x3, x4, hp3⟩ := HX3.out j c.args[j] (List.getElem?_eq_getElem hjl)
          have hzp := HZC.out c.args[j] (List.getElem_mem hjl)
          obtain ⟨ap, dp, rfl, hdp, _, _⟩ := id hp3
          have tx := (Sw.Txts.of hp3 HU.out hzp.2).on HR.out
          generalize c.args[j] = z at *
          have hp8 := hzp.1
          have sp := Sw.texts R ap z.path.length dp _ wr tx (by omega) hdp (by omega)
          have y2 := HR.out.row _ _ _ _ _ x2
          have hjd : j < d3 := by omega
          clear hp3 tx hzp
          go_upto_region 7 with (go_at_call 39; refine sp.mono ?_; rintro e w1 ⟨rfl, q1⟩; have HQ := Lib.hid (HR.out.trans q1); clear q1 sp; have r1 := HQ.out.row _ _ _ _ _ c1; obtain ⟨y, r0⟩ := HQ.out.num _ _ _ x0; have rf : ∀ q, w1.frozen? ⟨b3, q, none⟩ = false := fun q => (HQ.out.fz _ _).trans (HU.out b3 hb3 q))
          clear k1 y2
          go_region
          all_goals go_wp2
          all_goals go_roundw
          all_goals first
            | exact ⟨j + 1, by omega, by go_num, Sw.drew1 ((HQ.out.trans (Sw.setN hb3 r0)).wide (by omega))⟩
            | (simp [intOf]; omega)
        · have ej : j = c.args.length := by omega
          have dlj : decide ((j : Int) < (c.args.length : Int)) = false := decide_eq_false (by omega)
          obtain ⟨s', k0, hs'⟩ := HR.out.str _ _ _ c0
          have hsf : (⟨c.fn.toArray⟩ : ByteArray).size = c.fn.length := by show c.fn.toArray.size = _; rw [List.size_toArray]
          have hsz : (s' ++ (⟨#[33]⟩ : ByteArray)).size = s'.size + 1 := by rw [ByteArray.size_append]; rfl
          obtain ⟨S, hS⟩ : ∃ S, s' ++ (⟨#[33]⟩ : ByteArray) = S := ⟨_, rfl⟩
          rw [hS] at hsz
          have HN := Lib.hid ((HR.out.trans (Sw.set (s' := S) hb k0 (by omega))).wide (m := n + (i + 1) * 65) (by omega))
          have rf : ∀ q, wr.frozen? ⟨b, q, none⟩ = false := fun q => (HR.out.fz _ _).trans (HU.out b hb q)
          have hzz : s'.size ≤ 4611686018428387904 := by omega
          clear hs' hsf hsz
          go_wp2_with fail
          go_roundw
          case rel => exact ⟨i + 1, by omega, by go_num, HN⟩
          case measure => simp [intOf]; omega
    · have ei : i = cs.length := by omega
      subst ei
      have dlt : decide ((cs.length : Int) < (cs.length : Int)) = false := decide_eq_false (by omega)
      go_wp2_with fail
      go_end0
      exact ⟨rfl, HR.out.wide (by omega)⟩
theorem Sy.pipe (cs : List Cm) (v : Value) (R : Nat → Prop) (L : Nat) (w : World) (h : Dt.Lies w R (Cm.rows cs) v) (hU : ∀ k, R k → Rm.Ub w k) (hz : Cm.Few cs L) (hL : L ≤ 1152921504606846976) :
    Calls Tryz.prog 21 #[v] w fun e w' => e = .returned (.tuple #[]) ∧ Sw.Rel R 1000 w w' :=
  (Sy.pipeR cs v R L 0 w w h hU hz hL (Sw.Rel.refl _ _)).mono fun _ _ h => ⟨h.1, h.2.wide (by omega)⟩
end Go.Proofs.YtjppobeomocgbaaGreatDoor
/-
  PLAIN: words and pipes that a machine can hold.
-/
namespace Go.Proofs.YtjppobeomocgbaaGreatDoor
/-- words that a machine can hold -/
def Wi.Fits (ws : List Wi) : Prop := ws.length ≤ 1048576 ∧ ∀ x ∈ ws, x.text.length ≤ 1048576 ∧ x.path.length ≤ 1048576 ∧ ∀ t ∈ x.path, t.length ≤ 1048576
/-- a pipe that a machine can hold -/
def Cm.Held (cs : List Cm) : Prop := cs.length ≤ 1048576 ∧ ∀ c ∈ cs, c.fn.length ≤ 1048576 ∧ c.args.length ≤ 1048576 ∧ ∀ x ∈ c.args, x.name.length ≤ 1048576 ∧ x.text.length ≤ 1048576 ∧ x.path.length ≤ 1048576 ∧ ∀ t ∈ x.path, t.length ≤ 1048576
theorem Cm.Held.fits {cs : List Cm} (h : Cm.Held cs) : Cm.Fits cs := fun c hc x hx => ⟨by have := ((h.2 c hc).2.2 x hx).1; omega, fun t ht => by have := ((h.2 c hc).2.2 x hx).2.2.2 t ht; omega⟩
end Go.Proofs.YtjppobeomocgbaaGreatDoor
/-
  THE WALKS of the landed isFormed, areFormed, areFew: pipe.May.
-/
namespace Go.Proofs.YtjppobeomocgbaaGreatDoor
open Go.RowKit
/-- is a command such as words ask for? -/
def Kf.head (first : Bool) (c : Cm) : Bool := Pi.isFn c.fn || (c.fn.isEmpty && (first && decide (c.args.length = 1)))
def Kf.formed (first : Bool) (c : Cm) : Bool := Kf.head first c && c.args.all Pi.argMay
def Kf.row : Nat → List Cm → Bool
  | _, [] => true
  | i, c :: cs => Kf.formed (decide (i = 0)) c && Kf.row (i + 1) cs
def Kf.few (cs : List Cm) : Bool := cs.all (fun c => decide (c.args.length ≤ 8)) && decide (cs.length ≤ 8)
theorem Kf.row_step {cs : List Cm} {i : Nat} (h : i < cs.length) : Kf.row i (cs.drop i) = (Kf.formed (decide (i = 0)) cs[i] && Kf.row (i + 1) (cs.drop (i + 1))) := by
  rw [List.drop_eq_getElem_cons h]
  rfl
theorem Kf.few_step {cs : List Cm} {i : Nat} (h : i < cs.length) : (cs.drop i).all (fun c => decide (c.args.length ≤ 8)) = (decide (cs[i].args.length ≤ 8) && (cs.drop (i + 1)).all (fun c => decide (c.args.length ≤ 8))) := by
  rw [List.drop_eq_getElem_cons h, List.all_cons]
set_option maxRecDepth 100000 in
set_option maxHeartbeats 4000000 in
theorem Kf.isFormed (c : Cm) (first : Bool) (a3 : Option Addr) (d3 : Nat) (R : Nat → Prop) (w : World) (hl : Dt.Lies w R (Ar.rows c.args) (.slice a3 c.args.length d3)) (hz : ∀ x ∈ c.args, x.name.length ≤ 4611686018427387904 ∧ ∀ t ∈ x.path, t.length ≤ 4611686018427387904) :
    Calls Tryz.prog 139 #[.agg #[.string ⟨c.fn.toArray⟩, .slice a3 c.args.length d3], .bool first] w fun e w' => e = .returned (.bool (Kf.formed first c)) ∧ Below w.heap.size w w' := by
  obtain ⟨a3', d3', e3, hd3, hm3, hx3⟩ := Ar.get hl
  injection e3 with e3 _ e4
  subst e3 e4
  have hm5 : c.args.length ≤ 9223372036854775807 := by unfold maxLen at hm3; omega
  have fn := fun u => Kf.fn ⟨c.fn.toArray⟩ u
  have efn : (⟨c.fn.toArray⟩ : ByteArray).data.toList = c.fn := rfl
  rw [efn] at fn
  have t1 := Pi.isEmpty_list ⟨c.fn.toArray⟩
  have t2 := Pi.beq_nil ⟨c.fn.toArray⟩
  rw [efn] at t1 t2
  have HX3 := Lib.hid hx3
  have HZ := Lib.hid hz
  obtain ⟨B, hB⟩ : ∃ B, Kf.formed first c = B := ⟨_, rfl⟩
  rw [hB]
  unfold Kf.formed at hB
  obtain ⟨C, hC⟩ : ∃ C, Kf.head first c = C := ⟨_, rfl⟩
  rw [hC] at hB
  have HB := Lib.hid hB
  have HC := Lib.hid hC
  clear hl hx3 hz hB hC efn hm3
  generalize (⟨c.fn.toArray⟩ : ByteArray) = T at *
  go_enter Tryz.func139, Tryz.ntmps139
  go_upto_region 1 with fail
  go_cut [25] from 7 to 26 (fun cv wx => cv = .bool (!C) ∧ wx = w.alloc (.cells #[.string T, .slice a3 c.args.length d3] 46))
  case first =>
    have hC := HC.out
    clear HC HB HX3 HZ
    unfold Kf.head at hC
    have e1 : ((c.args.length : Int) == 1) = decide (c.args.length = 1) := by by_cases q : c.args.length = 1 <;> simp [q]; omega
    generalize Pi.isFn c.fn = f1 at *
    generalize c.fn.isEmpty = f2 at *
    generalize decide (c.args.length = 1) = f4 at *
    cases f1 with
    | true =>
      subst hC
      go_wp2_with (go_at_call 162; refine (fn _).mono ?_; rintro e w1 ⟨rfl, hw⟩; have hw := hw.symm; subst hw)
      go_meet
      exact ⟨rfl, rfl⟩
    | false =>
      cases f2 with
      | false =>
        subst hC
        go_wp2_with (go_at_call 162; refine (fn _).mono ?_; rintro e w1 ⟨rfl, hw⟩; have hw := hw.symm; subst hw)
        go_meet
        exact ⟨rfl, rfl⟩
      | true =>
        cases first with
        | false =>
          subst hC
          go_wp2_with (go_at_call 162; refine (fn _).mono ?_; rintro e w1 ⟨rfl, hw⟩; have hw := hw.symm; subst hw)
          go_meet
          exact ⟨rfl, rfl⟩
        | true =>
          cases f4 <;> subst hC
          all_goals
            go_wp2_with (go_at_call 162; refine (fn _).mono ?_; rintro e w1 ⟨rfl, hw⟩; have hw := hw.symm; subst hw)
            go_meet
            exact ⟨rfl, rfl⟩
  case rest =>
    obtain ⟨rfl, hw⟩ := hcut
    have HW0 : Hid (Below w.heap.size w wc) := by rw [hw]; exact Pr.boxed _ _
    have hq : Bs.Box wc w.heap.size #[.string T, .slice a3 c.args.length d3] 46 := by rw [hw]; exact Bs.Box.new _ _ _ _ rfl
    have HQ := Lib.hid hq
    have q1 := hq.cell 1 rfl
    clear hq hw HC fn t1 t2
    cases C with
    | false =>
      have hB : false = B := HB.out
      subst hB
      clear HB HX3 HZ HQ
      go_wp2_with fail
      go_ret
      exact ⟨rfl, HW0.out⟩
    | true =>
      have HB2 : Hid (c.args.all Pi.argMay = B) := HB.out
      clear HB
      go_wp2_with fail
      go_loopw [29] (fun jv wr => ∃ j : Nat, j ≤ c.args.length ∧ jv = .int .i64 (j : Int) ∧ Hid ((c.args.drop j).all Pi.argMay = B) ∧ Hid (Below w.heap.size w wr)) (fun jv _ => c.args.length - (intOf jv).toNat)
      case atStart => exact ⟨0, Nat.zero_le _, rfl, HB2, HW0⟩
      case round =>
        clear HB2 HW0 HQ q1
        obtain ⟨j, hj, rfl, HJ, HV⟩ := hrel
        by_cases hjl : j < c.args.length
        · have dlj : decide ((j : Int) < (c.args.length : Int)) = true := decide_eq_true (by omega)
          obtain ⟨b3, o3, pv3, rfl, _, x0, x1, x2, x3, x4, hp3⟩ := HX3.out j c.args[j] (List.getElem?_eq_getElem hjl)
          have hstj := (Pi.all_arg hjl).symm.trans HJ.out
          have hzj := HZ.out c.args[j] (List.getElem_mem hjl)
          have x0 := Tp.keep HV.out x0
          have x1 := Tp.keep HV.out x1
          have x2 := Tp.keep HV.out x2
          have x3 := Tp.keep HV.out x3
          have x4 := Tp.keep HV.out x4
          have hjd : j < d3 := by omega
          have am := fun o => Kf.arg c.args[j] pv3 _ (wr.alloc o) ((hp3.later HV.out).boxed o) hzj.2 hzj.1
          obtain ⟨ap, dp, rfl, _, _, _⟩ := hp3
          generalize c.args[j] = z at *
          obtain ⟨q, hq⟩ : ∃ q, Pi.argMay z = q := ⟨_, rfl⟩
          rw [hq] at am hstj
          clear hzj hq HJ HX3 HZ
          cases q with
          | false =>
            have hB : false = B := hstj
            subst hB
            clear hstj
            go_wp2_with (go_at_call 163; refine (am _).mono ?_; rintro e w1 ⟨rfl, b1⟩; have B1 := Lib.hid ((HV.out.alloc HV.out.size _).trans (b1.mono (by simp; have := HV.out.size; omega))); clear b1 am)
            go_ret
            exact ⟨rfl, B1.out⟩
          | true =>
            have HSK : Hid ((c.args.drop (j + 1)).all Pi.argMay = B) := hstj
            clear hstj
            go_wp2_with (go_at_call 163; refine (am _).mono ?_; rintro e w1 ⟨rfl, b1⟩; have B1 := Lib.hid ((HV.out.alloc HV.out.size _).trans (b1.mono (by simp; have := HV.out.size; omega))); clear b1 am)
            go_roundw
            case rel => exact ⟨j + 1, by omega, by go_num, HSK, B1⟩
            case measure => simp [intOf]; omega
        · have ej : j = c.args.length := by omega
          subst ej
          have dlj : decide ((c.args.length : Int) < (c.args.length : Int)) = false := decide_eq_false (by omega)
          have hB : true = B := by
            rw [← HJ.out, List.drop_length]
            rfl
          subst hB
          clear HJ HX3 HZ
          go_wp2_with fail
          go_ret
          exact ⟨rfl, HV.out⟩
set_option maxRecDepth 100000 in
set_option maxHeartbeats 4000000 in
theorem Kf.areFormed (cs : List Cm) (v : Value) (R : Nat → Prop) (w : World) (h : Dt.Lies w R (Cm.rows cs) v) (hz : Cm.Fits cs) :
    Calls Tryz.prog 115 #[v] w fun e w' => e = .returned (.bool (Kf.row 0 cs && decide (0 < cs.length))) ∧ Below w.heap.size w w' := by
  obtain ⟨a, d, rfl, hd, hm, hx⟩ := Cm.get h
  obtain ⟨B, hB⟩ : ∃ B, (Kf.row 0 cs && decide (0 < cs.length)) = B := ⟨_, rfl⟩
  rw [hB]
  have HB := Lib.hid hB
  have HX := Lib.hid hx
  have HZ := Lib.hid hz
  have hml : cs.length ≤ 9223372036854775807 := by unfold maxLen at hm; omega
  clear hB hx hz h hm
  go_enter Tryz.func115, Tryz.ntmps115
  go_wp2_with fail
  go_loopw [7] (fun iv wr => ∃ i : Nat, i ≤ cs.length ∧ iv = .int .i64 (i : Int) ∧ Hid (Kf.row 0 cs = Kf.row i (cs.drop i)) ∧ Hid (Below w.heap.size w wr)) (fun iv _ => cs.length - (intOf iv).toNat)
  case atStart => exact ⟨0, Nat.zero_le _, rfl, by unfold Hid; rw [List.drop_zero], Below.refl _ _⟩
  case round =>
    obtain ⟨i, hi, rfl, HI, HW⟩ := hrel
    by_cases hlt : i < cs.length
    · have dlt : decide ((i : Int) < (cs.length : Int)) = true := decide_eq_true (by omega)
      obtain ⟨b, o, av, rfl, _, c0, c1, hl⟩ := HX.out i cs[i] (List.getElem?_eq_getElem hlt)
      have hst := HI.out.trans (Kf.row_step hlt)
      have hzc := HZ.out cs[i] (List.getElem_mem hlt)
      have c0 := Tp.keep HW.out c0
      have c1 := Tp.keep HW.out c1
      have hl := hl.later HW.out
      obtain ⟨a3, d3, rfl, _, _, _⟩ := Ar.get hl
      have hid : i < d := by omega
      have e0 : ((i : Int) == 0) = decide (i = 0) := by by_cases q : i = 0 <;> simp [q]
      have fo := fun o => Kf.isFormed cs[i] (decide (i = 0)) a3 d3 (fun _ => True) (wr.alloc o) (hl.later ((Below.refl _ _).alloc (Nat.le_refl _) o)) hzc
      generalize cs[i] = c at *
      generalize decide (i = 0) = fi at *
      obtain ⟨q, hq⟩ : ∃ q, Kf.formed fi c = q := ⟨_, rfl⟩
      rw [hq] at fo hst
      have HST := Lib.hid hst
      clear hq hst hl hzc HI HX HZ
      cases q with
      | false =>
        have hB : false = B := by
          rw [← HB.out, HST.out]
          rfl
        subst hB
        clear HST HB
        go_wp2_with (go_at_call 139; refine (fo _).mono ?_; rintro e w1 ⟨rfl, b1⟩; have B1 := Lib.hid ((HW.out.alloc HW.out.size _).trans (b1.mono (by simp; have := HW.out.size; omega))); clear b1 fo)
        go_ret
        exact ⟨rfl, B1.out⟩
      | true =>
        have HN : Hid (Kf.row 0 cs = Kf.row (i + 1) (cs.drop (i + 1))) := HST.out
        clear HST
        go_wp2_with (go_at_call 139; refine (fo _).mono ?_; rintro e w1 ⟨rfl, b1⟩; have B1 := Lib.hid ((HW.out.alloc HW.out.size _).trans (b1.mono (by simp; have := HW.out.size; omega))); clear b1 fo)
        go_roundw
        case rel => exact ⟨i + 1, by omega, by go_num, HN, B1⟩
        case measure => simp [intOf]; omega
    · have ei : i = cs.length := by omega
      subst ei
      have dlt : decide ((cs.length : Int) < (cs.length : Int)) = false := decide_eq_false (by omega)
      have e1 : decide ((0 : Int) < (cs.length : Int)) = B := by
        rw [← HB.out, HI.out, List.drop_length]
        show _ = (true && _)
        rw [Bool.true_and]
        exact decide_eq_decide.2 (by omega)
      have e2 : decide (0 < cs.length) = B := by rw [← e1]; exact decide_eq_decide.2 (by omega)
      clear HB HI HX HZ
      go_wp2_with fail
      go_ret
      exact ⟨by first | rfl | exact congrArg (fun b => Ending.returned (.bool b)) e1 | exact congrArg (fun b => Ending.returned (.bool b)) e2, HW.out⟩
set_option maxRecDepth 100000 in
set_option maxHeartbeats 4000000 in
theorem Kf.areFew (cs : List Cm) (v : Value) (R : Nat → Prop) (w : World) (h : Dt.Lies w R (Cm.rows cs) v) :
    Calls Tryz.prog 116 #[v] w fun e w' => e = .returned (.bool (Kf.few cs)) ∧ Below w.heap.size w w' := by
  obtain ⟨a, d, rfl, hd, hm, hx⟩ := Cm.get h
  obtain ⟨B, hB⟩ : ∃ B, Kf.few cs = B := ⟨_, rfl⟩
  rw [hB]
  unfold Kf.few at hB
  have HB := Lib.hid hB
  have HX := Lib.hid hx
  have hml : cs.length ≤ 9223372036854775807 := by unfold maxLen at hm; omega
  clear hB hx h hm
  go_enter Tryz.func116, Tryz.ntmps116
  go_wp2_with fail
  go_loopw [7] (fun iv wr => ∃ i : Nat, i ≤ cs.length ∧ iv = .int .i64 (i : Int) ∧ Hid (cs.all (fun c => decide (c.args.length ≤ 8)) = (cs.drop i).all (fun c => decide (c.args.length ≤ 8))) ∧ Hid (Below w.heap.size w wr)) (fun iv _ => cs.length - (intOf iv).toNat)
  case atStart => exact ⟨0, Nat.zero_le _, rfl, by unfold Hid; rw [List.drop_zero], Below.refl _ _⟩
  case round =>
    obtain ⟨i, hi, rfl, HI, HW⟩ := hrel
    by_cases hlt : i < cs.length
    · have dlt : decide ((i : Int) < (cs.length : Int)) = true := decide_eq_true (by omega)
      obtain ⟨b, o, av, rfl, _, c0, c1, hl⟩ := HX.out i cs[i] (List.getElem?_eq_getElem hlt)
      have hst := HI.out.trans (Kf.few_step hlt)
      have c0 := Tp.keep HW.out c0
      have c1 := Tp.keep HW.out c1
      obtain ⟨a3, d3, rfl, _, _, _⟩ := Ar.get hl
      have hid : i < d := by omega
      have e8 : decide ((8 : Int) < (cs[i].args.length : Int)) = !decide (cs[i].args.length ≤ 8) := by by_cases q : cs[i].args.length ≤ 8 <;> simp [q] <;> omega
      generalize cs[i] = c at *
      generalize decide (c.args.length ≤ 8) = q at *
      have HST := Lib.hid hst
      clear hst hl HI HX
      cases q with
      | false =>
        have hB : false = B := by
          rw [← HB.out, HST.out]
          rfl
        subst hB
        clear HST HB
        go_wp2_with fail
        go_ret
        exact ⟨rfl, (HW.out.alloc HW.out.size _)⟩
      | true =>
        have HN : Hid (cs.all (fun c => decide (c.args.length ≤ 8)) = (cs.drop (i + 1)).all (fun c => decide (c.args.length ≤ 8))) := HST.out
        clear HST
        go_wp2_with fail
        go_roundw
        case rel => exact ⟨i + 1, by omega, by go_num, HN, (HW.out.alloc HW.out.size _)⟩
        case measure => simp [intOf]; omega
    · have ei : i = cs.length := by omega
      subst ei
      have dlt : decide ((cs.length : Int) < (cs.length : Int)) = false := decide_eq_false (by omega)
      have e1 : decide ((cs.length : Int) ≤ 8) = B := by
        rw [← HB.out, HI.out, List.drop_length]
        show _ = (true && _)
        rw [Bool.true_and]
        exact decide_eq_decide.2 (by omega)
      have e2 : decide (cs.length ≤ 8) = B := by rw [← e1]; exact decide_eq_decide.2 (by omega)
      clear HB HI HX
      go_wp2_with fail
      go_ret
      exact ⟨by first | rfl | exact congrArg (fun b => Ending.returned (.bool b)) e1 | exact congrArg (fun b => Ending.returned (.bool b)) e2, HW.out⟩
end Go.Proofs.YtjppobeomocgbaaGreatDoor
/-
  THE WALKS of the landed hasOnlyText, constant.
-/
namespace Go.Proofs.YtjppobeomocgbaaGreatDoor
open Go.RowKit
/-- has a word its Text alone? -/
def Ka.only (x : Wi) (k : Int) : Bool := decide (x.kind = k) && (x.path.isEmpty && decide (x.num = 0))
def Ka.zero : Ar := ⟨0, [], [], 0, []⟩
/-- a name that is an argument by itself -/
def Ka.const (t : List UInt8) : Ar × Bool :=
  if t = [116, 114, 117, 101] then (⟨4, [], [], 1, []⟩, true)
  else if t = [102, 97, 108, 115, 101] then (⟨4, [], [], 0, []⟩, true)
  else if t = [110, 117, 108, 108] then (⟨5, [], [], 0, []⟩, true)
  else (Ka.zero, false)
/-- the argument that a word is, by its form -/
def Ka.arg (x : Wi) : Ar × Bool :=
  if x.kind = 0 then ((Ka.const x.text).1, (Ka.const x.text).2 && Ka.only x 0)
  else if x.kind = 1 then (⟨0, [], x.path, 0, []⟩, x.text.isEmpty && decide (x.num = 0))
  else if x.kind = 2 then (⟨1, x.text, x.path, 0, []⟩, decide (x.num = 0))
  else if x.kind = 3 then (⟨2, [], [], x.num, []⟩, x.text.isEmpty && x.path.isEmpty)
  else if x.kind = 4 then (⟨3, [], [], 0, x.text⟩, Ka.only x 4)
  else (Ka.zero, false)
set_option maxHeartbeats 1000000 in
theorem Ka.hasOnly (k k2 : Int) (tx : ByteArray) (p : List (List UInt8)) (m : Int) (a : Option Addr) (d : Nat) (w : World) :
    Calls Tryz.prog 161 #[.agg #[.int .i64 k, .string tx, .slice a p.length d, .int .i64 m], .int .i64 k2] w fun e w' => e = .returned (.bool (Ka.only ⟨k, tx.data.toList, p, m⟩ k2)) ∧ Below w.heap.size w w' := by
  have e1 : (k == k2) = decide (k = k2) := by by_cases q : k = k2 <;> simp [q]
  have e2 := Pi.len0 p
  have e3 : (m == 0) = decide (m = 0) := by by_cases q : m = 0 <;> simp [q]
  unfold Ka.only
  simp only
  generalize decide (k = k2) = b1 at *
  generalize p.isEmpty = b2 at *
  generalize decide (m = 0) = b3 at *
  cases b1 with
  | false =>
    go_enter Tryz.func161, Tryz.ntmps161
    go_wp2_with fail
    go_ret
    exact ⟨rfl, Pr.boxed _ _⟩
  | true =>
    cases b2 with
    | false =>
      go_enter Tryz.func161, Tryz.ntmps161
      go_wp2_with fail
      go_ret
      exact ⟨rfl, Pr.boxed _ _⟩
    | true =>
      cases b3 with
      | false =>
        go_enter Tryz.func161, Tryz.ntmps161
        go_wp2_with fail
        go_ret
        exact ⟨rfl, Pr.boxed _ _⟩
      | true =>
        go_enter Tryz.func161, Tryz.ntmps161
        go_wp2_with fail
        go_ret
        exact ⟨rfl, Pr.boxed _ _⟩
/-- an argument without a path, as a value -/
abbrev Ka.val (x : Ar) : Value := .agg #[.int .i64 x.kind, .string ⟨x.name.toArray⟩, .slice none 0 0, .int .i64 x.num, .string ⟨x.text.toArray⟩]
set_option maxHeartbeats 1000000 in
theorem Ka.constant (tx : ByteArray) (w : World) :
    Calls Tryz.prog 169 #[.string tx] w fun e w' => e = .returned (.tuple #[Ka.val (Ka.const tx.data.toList).1, .bool (Ka.const tx.data.toList).2]) ∧ Below w.heap.size w w' := by
  have eq1 := fun l => Pi.beq_list tx l
  unfold Ka.const
  by_cases e1 : tx.data.toList = [116, 114, 117, 101]
  · have q1 := (eq1 _).trans (decide_eq_true e1)
    rw [if_pos e1]
    clear eq1 e1
    go_enter Tryz.func169, Tryz.ntmps169
    go_wp2_with fail
    refine bodyPost_ret (v := .tuple #[Ka.val ⟨4, [], [], 1, []⟩, .bool true]) (by simp [results, Tryz.results169, go_sem]) rfl ?_
    exact ⟨rfl, by first | exact Pr.boxed _ _ | exact Pr.boxed2 _ _ _⟩
  · have q1 := (eq1 _).trans (decide_eq_false e1)
    rw [if_neg e1]
    by_cases e2 : tx.data.toList = [102, 97, 108, 115, 101]
    · have q2 := (eq1 _).trans (decide_eq_true e2)
      rw [if_pos e2]
      clear eq1 e1 e2
      go_enter Tryz.func169, Tryz.ntmps169
      go_wp2_with fail
      refine bodyPost_ret (v := .tuple #[Ka.val ⟨4, [], [], 0, []⟩, .bool true]) (by simp [results, Tryz.results169, go_sem]) rfl ?_
      exact ⟨rfl, by first | exact Pr.boxed _ _ | exact Pr.boxed2 _ _ _⟩
    · have q2 := (eq1 _).trans (decide_eq_false e2)
      rw [if_neg e2]
      by_cases e3 : tx.data.toList = [110, 117, 108, 108]
      · have q3 := (eq1 _).trans (decide_eq_true e3)
        rw [if_pos e3]
        clear eq1 e1 e2 e3
        go_enter Tryz.func169, Tryz.ntmps169
        go_wp2_with fail
        refine bodyPost_ret (v := .tuple #[Ka.val ⟨5, [], [], 0, []⟩, .bool true]) (by simp [results, Tryz.results169, go_sem]) rfl ?_
        exact ⟨rfl, by first | exact Pr.boxed _ _ | exact Pr.boxed2 _ _ _⟩
      · have q3 := (eq1 _).trans (decide_eq_false e3)
        rw [if_neg e3]
        clear eq1 e1 e2 e3
        go_enter Tryz.func169, Tryz.ntmps169
        go_wp2_with fail
        refine bodyPost_ret (v := .tuple #[Ka.val Ka.zero, .bool false]) (by simp [results, Tryz.results169, go_sem, Ka.zero]) rfl ?_
        exact ⟨rfl, by first | exact Pr.boxed _ _ | exact Pr.boxed2 _ _ _⟩
end Go.Proofs.YtjppobeomocgbaaGreatDoor

/-
  THE WALK of the program's value.Get.
-/
import Derived.Test.YtggfemdnoccmeaaDoorVCopy
import Derived.Test.YtggfemdnoccmeaaDoorVFind
namespace Go.Proofs.YtggfemdnoccmeaaDoor
open Go.RowKit

/-- each value of the tree is formed -/
def Vt.fit : Vt → Prop
  | .nil => False
  | .mk k x b s n it m ks => Vt.formed k x b s n m ks = true ∧ ∀ i, i < n → (it i).fit
theorem Vt.run_yes {f : Nat → Int → Bool × Int} {L : Int} {n : Nat} (h : (Vt.run f n L).1 = true) {i : Nat} (hi : i < n) : (Vt.run f i L).1 = true ∧ (f i (Vt.run f i L).2).1 = true := by
  have h1 : (Vt.run f i L).1 = true := by
    cases e : (Vt.run f i L).1 with
    | true => rfl
    | false => rw [Vt.run_no e n (by omega), e] at h; cases h
  have h2 : (Vt.run f (i + 1) L).1 = true := by
    cases e : (Vt.run f (i + 1) L).1 with
    | true => rfl
    | false => rw [Vt.run_no e n (by omega), e] at h; cases h
  rw [Vt.run, h1, if_pos rfl] at h2
  exact ⟨h1, h2⟩
theorem Vt.fit_of : ∀ (t : Vt) (deep L : Int), (t.stand deep L).1 = true → t.fit := by
  intro t
  induction t with
  | nil => intro deep L h; cases h
  | mk k x b s n it m ks ih =>
    intro deep L h
    unfold Vt.stand at h
    split at h
    · cases h
    · next hc =>
      refine ⟨?_, fun i hi => ih i _ _ (Vt.run_yes h hi).2⟩
      cases e : Vt.formed k x b s n m ks with
      | true => rfl
      | false => exact absurd (.inr (.inr e)) hc
theorem Vt.formed_le {k x : Int} {b : Nat} {s : ByteArray} {n m : Nat} {ks : Nat → ByteArray} (h : Vt.formed k x b s n m ks = true) : n ≤ 64 ∧ m ≤ 64 := by
  unfold Vt.formed at h
  repeat' split at h
  all_goals simp at h
  all_goals omega
theorem Vt.fit.tidy : ∀ {t : Vt}, t.fit → t.tidy := by
  intro t
  induction t with
  | nil => intro h; exact h.elim
  | mk k x b s n it m ks ih =>
    rintro ⟨h1, h2⟩
    have := Vt.formed_le h1
    exact ⟨this.1, this.2, fun i hi => ih i (h2 i hi)⟩
theorem Vt.formed6 {x : Int} {b : Nat} {s : ByteArray} {n m : Nat} {ks : Nat → ByteArray} (h : Vt.formed 6 x b s n m ks = true) : n ≤ 64 ∧ m = n ∧ Vt.keysOk ks m = true := by
  simp [Vt.formed] at h
  exact ⟨h.1.1.1.1.1, h.1.1.1.1.2, h.1.1.1.2⟩

/-- the last of m keys that is x -/
def Vt.pos (ks : Nat → ByteArray) (x : List UInt8) : Nat → Option Nat
  | 0 => none
  | j + 1 => if (ks j).toList = x then some j else Vt.pos ks x j
theorem Vt.pos_none {ks : Nat → ByteArray} {x : List UInt8} {m : Nat} (h : ∀ j, j < m → (ks j).toList ≠ x) : Vt.pos ks x m = none := by
  induction m with
  | zero => rfl
  | succ m ih => rw [Vt.pos, if_neg (h m (by omega))]; exact ih fun j hj => h j (by omega)
theorem Vt.pos_some {ks : Nat → ByteArray} {x : List UInt8} {m I : Nat} (hok : Vt.keysOk ks m = true) (h : (ks I).toList = x) : ∀ m', m' ≤ m → I < m' → Vt.pos ks x m' = some I := by
  intro m' hm hi
  induction m' with
  | zero => omega
  | succ m' ih =>
    rw [Vt.pos]
    by_cases e : I = m'
    · subst e; rw [if_pos h]
    · rw [if_neg (fun e' => Vo.ne (Vo.rise hok (show I < m' by omega) (by omega)) (h.trans e'.symm))]
      exact ih (by omega) (by omega)
/-- what stands behind one name: an error's number, or a value -/
def Vt.under : Vt → List UInt8 → Except Int Vt
  | .nil, _ => .error 402
  | .mk k _ _ _ _ it m ks, x => if k = 6 then (match Vt.pos ks x m with | none => .error 401 | some j => .ok (it j)) else .error 402
/-- .. behind the first names of a path -/
def Vt.getTo (t : Vt) (p : Nat → ByteArray) : Nat → Except Int Vt
  | 0 => .ok t
  | i + 1 => match Vt.getTo t p i with | .error e => .error e | .ok u => u.under (p i).toList
theorem Vt.getTo_err {t : Vt} {p : Nat → ByteArray} {i : Nat} {e : Int} (h : Vt.getTo t p i = .error e) : ∀ n, i ≤ n → Vt.getTo t p n = .error e := by
  intro n hn
  induction n with
  | zero => rw [Nat.le_zero.1 hn] at h; exact h
  | succ n ih =>
    by_cases e' : i = n + 1
    · rw [← e']; exact h
    · rw [Vt.getTo, ih (by omega)]
def Vt.zero : Vt := .mk 0 0 0 ⟨#[]⟩ 0 (fun _ => .nil) 0 (fun _ => ⟨#[]⟩)
def Vt.get (t : Vt) (L : Nat) (p : Nat → ByteArray) : Vt × Int :=
  if 8 < L ∨ t.may = false then (Vt.zero, 400) else match Vt.getTo t p L with | .error e => (Vt.zero, e) | .ok u => (u, 0)
theorem Vt.zero_own (w : World) (B C : Nat) (h : B ≤ C) : Vt.zero.Own w B C (.agg #[.int .i64 0, .int .i64 0, .int .u64 0, .string ⟨#[]⟩, .slice none 0 0, .slice none 0 0]) :=
  ⟨none, 0, none, 0, B, rfl, by decide, ⟨Nat.le_refl _, by decide⟩, ⟨Nat.le_refl _, by decide⟩, Nat.le_refl _, h, fun h => absurd h (by decide), fun h => absurd h (by decide)⟩

theorem Vt.Own.wide {w : World} {lo hi lo' hi' : Nat} {t : Vt} {v : Value} (h : t.Own w lo hi v) (h1 : lo' ≤ lo) (h2 : hi ≤ hi') : t.Own w lo' hi' v := by
  cases t with
  | nil => exact h.elim
  | mk k x b s n it m ks =>
    obtain ⟨ai, c, ak, d, mid, e, hb, hd, hc, l1, l2, hk, hi⟩ := h
    refine ⟨ai, c, ak, d, mid, e, hb, hd, hc, by omega, by omega, fun hm => ?_, fun hn => ?_⟩
    · obtain ⟨g, cur, e, g1, g2, r⟩ := hk hm
      exact ⟨g, cur, e, by omega, g2, r⟩
    · obtain ⟨g, cur, A, B, e, g1, g2, hg, hj, hp⟩ := hi hn
      refine ⟨g, cur, A, B, e, g1, by omega, hg, fun i hin => ?_, hp⟩
      obtain ⟨a1, a2, r⟩ := hj i hin
      exact ⟨a1, by omega, r⟩
theorem Vt.Lies.root {w : World} {R : Nat → Prop} {t : Vt} {k x : Int} {b : Nat} {s : ByteArray} {ai ak : Option Addr} {n c m d : Nat} (h : t.Lies w R (.agg #[.int .i64 k, .int .i64 x, .int .u64 (b : Int), .string s, .slice ai n c, .slice ak m d])) : ∃ it ks, t = .mk k x b s n it m ks := by
  cases t with
  | nil => exact h.elim
  | mk k' x' b' s' n' it m' ks =>
    obtain ⟨ai', c', ak', d', e, _⟩ := h
    simp only [Value.agg.injEq, Array.mk.injEq, List.cons.injEq, Value.slice.injEq, Value.int.injEq, Value.string.injEq, true_and, and_true] at e
    obtain ⟨rfl, rfl, e3, rfl, ⟨_, rfl, _⟩, _, rfl, _⟩ := e
    have : b = b' := by omega
    subst this
    exact ⟨it, ks, rfl⟩

set_option maxRecDepth 100000 in
set_option maxHeartbeats 4000000 in
theorem Vg.get (t : Vt) (v : Value) (L : Nat) (p : Nat → ByteArray) (ap : Option Addr) (dp : Nat) (w : World) (h : t.Lies w (· < w.heap.size) v) (hp : Vt.Keys w (· < w.heap.size) L p ap dp) :
    Calls Tryd.prog 10 #[v, .slice ap L dp] w fun e w' => ∃ v', e = .returned (.tuple #[v', .int .i64 (t.get L p).2]) ∧ (t.get L p).1.Own w' w.heap.size w'.heap.size v' ∧ Below w.heap.size w w' := by
  obtain ⟨k, x, b, s, ai, n, c, ak, m, d, rfl⟩ := h.form
  have H := Lib.hid h
  clear h
  have HG : Hid (t.get L p = if 8 < L ∨ t.may = false then (Vt.zero, 400) else match Vt.getTo t p L with | .error e => (Vt.zero, e) | .ok u => (u, 0)) := rfl
  have HF : Hid (t.may = true → t.fit) := Vt.fit_of t 1 1024
  generalize hz : t.get L p = Z at *
  clear hz
  by_cases h8 : 8 < L
  · have h8' : decide ((8 : Int) < (L : Int)) = true := decide_eq_true (by omega)
    have HZ : Hid (Z = (Vt.zero, 400)) := by have := HG.out; rw [if_pos (.inl h8)] at this; exact this
    clear HG
    go_enter Tryd.func10, Tryd.ntmps10
    go_wp2
    refine bodyPost_ret (v := .tuple #[.agg #[.int .i64 0, .int .i64 0, .int .u64 0, .string ⟨#[]⟩, .slice none 0 0, .slice none 0 0], .int .i64 400]) (by simp [results, Tryd.results10, go_sem]) rfl ?_
    rw [HZ.out]
    refine ⟨_, rfl, Vt.zero_own _ _ _ ?_, ?_⟩
    · simp
      omega
    · exact ((Below.refl _ _).alloc (Nat.le_refl _) _).alloc (by simp) _
  have h8' : decide ((8 : Int) < (L : Int)) = false := decide_eq_false (by omega)
  go_enter Tryd.func10, Tryd.ntmps10
  go_wp2_with fail
  refine (Vm.may t _ _ ((H.out.alloc _).alloc _)).mono ?_
  rintro e w1 ⟨rfl, hw⟩
  have R1 := (Vm.box hw)
  have B1 := (Vm.box (Vm.behind hw))
  have hb1 := Vm.behind2 hw
  have hs1 : w.heap.size + 2 ≤ w1.heap.size := by have := hw.size; simp at this; omega
  simp only [World.size_alloc] at R1
  clear hw
  generalize hM : t.may = M at *
  cases M with
  | false =>
    have HZ : Hid (Z = (Vt.zero, 400)) := by have := HG.out; rw [if_pos (.inr rfl)] at this; exact this
    clear HG HF hM
    obtain ⟨r0, r1, r2, r3, r4, r5⟩ := R1.cells
    have f0 := R1.frozen
    have HR := Lib.hid R1
    clear R1 B1
    go_wp2
    have WR := Vm.set6 w1 (w.heap.size + 1) 0 (.int .i64 0) (.int .i64 0) (.int .u64 0) (.string ⟨#[]⟩) (.slice none 0 0) (.slice none 0 0)
    have BX : Vm.Box _ (w.heap.size + 1) (.int .i64 0) (.int .i64 0) (.int .u64 0) (.string ⟨#[]⟩) (.slice none 0 0) (.slice none 0 0) := ⟨Vm.set6_row HR.out.all 0 (.int .i64 0) (.int .i64 0) (.int .u64 0) (.string ⟨#[]⟩) (.slice none 0 0) (.slice none 0 0)⟩
    simp only [Nat.zero_add] at WR BX
    generalize ((((((w1.setCell ⟨w.heap.size + 1, 0, none⟩ (.int .i64 0)).setCell ⟨w.heap.size + 1, 1, none⟩ (.int .i64 0)).setCell ⟨w.heap.size + 1, 2, none⟩ (.int .u64 0)).setCell ⟨w.heap.size + 1, 3, none⟩ (.string ⟨#[]⟩)).setCell ⟨w.heap.size + 1, 4, none⟩ (.slice none 0 0)).setCell ⟨w.heap.size + 1, 5, none⟩ (.slice none 0 0)) = WF at *
    obtain ⟨q0, q1, q2, q3, q4, q5⟩ := BX.cells
    refine bodyPost_ret (v := .tuple #[.agg #[.int .i64 0, .int .i64 0, .int .u64 0, .string ⟨#[]⟩, .slice none 0 0, .slice none 0 0], .int .i64 400]) (by simp [results, Tryd.results10, go_sem, q0, q1, q2, q3, q4, q5]) rfl ?_
    have hbF := WR.below hb1 (show w.heap.size ≤ w.heap.size + 1 by omega)
    rw [HZ.out]
    exact ⟨_, rfl, Vt.zero_own _ _ _ hbF.size, hbF⟩
  | true =>
    have hfit := HF.out rfl
    have HZ : Hid (Z = match Vt.getTo t p L with | .error e => (Vt.zero, e) | .ok u => (u, 0)) := by
      have := HG.out
      rw [if_neg (by rintro (h | h); omega; cases h)] at this
      exact this
    clear HG HF hM
    obtain ⟨c0, c1, c2, c3, c4, c5⟩ := B1.cells
    have hl8 : L ≤ 8 := by omega
    have LI := Lib.hid H.out
    have HFT := Lib.hid hfit
    have HB1 := Lib.hid B1
    have HR1 := Lib.hid R1
    clear hfit B1 R1
    go_wp2_with fail
    go_loopw [21] (fun ix wr => ∃ (i : Nat) (u : Vt) (k x : Int) (b : Nat) (s : ByteArray) (ai : Option Addr) (n c : Nat) (ak : Option Addr) (m d : Nat), i ≤ L ∧ ix = .int .i64 i ∧ Below w.heap.size w wr ∧ w.heap.size + 2 ≤ wr.heap.size ∧ Vm.Box wr w.heap.size (.int .i64 k) (.int .i64 x) (.int .u64 (b : Int)) (.string s) (.slice ai n c) (.slice ak m d) ∧ Vm.Box wr (w.heap.size + 1) (.int .i64 0) (.int .i64 0) (.int .u64 0) (.string ⟨#[]⟩) (.slice none 0 0) (.slice none 0 0) ∧ u.Lies w (· < w.heap.size) (.agg #[.int .i64 k, .int .i64 x, .int .u64 (b : Int), .string s, .slice ai n c, .slice ak m d]) ∧ Hid (u.fit ∧ Vt.getTo t p i = .ok u)) (fun ix _ => L - (intOf ix).toNat)
    case atStart => exact ⟨0, t, k, x, b, s, ai, n, c, ak, m, d, Nat.zero_le _, by go_num, hb1, hs1, HB1.out, HR1.out, LI.out, HFT.out, rfl⟩
    case round =>
      clear c0 c1 c2 c3 c4 c5 HB1 HR1 LI HFT
      obtain ⟨i, u, k, x, b, s, ai, n, c, ak, m, d, hiL, rfl, hbr, hsr, hB, hR, hl, HU⟩ := hrel
      obtain ⟨c0, c1, c2, c3, c4, c5⟩ := hB.cells
      obtain ⟨r0, r1, r2, r3, r4, r5⟩ := hR.cells
      have f0 := hR.frozen
      have g0 := hB.frozen
      have HB := Lib.hid hB
      have HR := Lib.hid hR
      have HL := Lib.hid hl
      clear hB hR hl
      by_cases hlt : i < L
      · obtain ⟨bp, op, rfl, hbp, hcp⟩ := hp.cell i hlt
        have hpd : i < dp := Nat.lt_of_lt_of_le hlt hp.le
        replace hcp := Vt.cell_on (hbr.block bp hbp) hcp
        obtain ⟨it, ks, rfl⟩ := HL.out.root
        have HS : Hid (Vt.getTo t p (i + 1) = (Vt.mk k x b s n it m ks).under (p i).toList) := by unfold Hid; rw [Vt.getTo, HU.out.2]
        generalize hX : p i = X at *
        clear hX
        by_cases k6 : k = 6
        · subst k6
          obtain ⟨hn64, hmn, hok⟩ := Vt.formed6 HU.out.1.1
          have HMN := Lib.hid hmn
          have HOK := Lib.hid hok
          have hm64 : m ≤ 64 := by omega
          clear hmn hok
          have HKR := Lib.hid ((HL.out.on' hbr).keys).1
          go_wp2_with fail
          refine (Vf.search m ks ak d _ X _ HKR.out hm64 HOK.out).mono ?_
          rintro e w2 ⟨rfl, I, f, rfl, hf1, hf2⟩
          cases f with
          | false =>
            have HZ2 : Hid (Z = (Vt.zero, 401)) := by
              have h1 : Vt.getTo t p (i + 1) = .error 401 := by rw [HS.out, Vt.under, if_pos rfl, Vt.pos_none (hf2 rfl)]
              have h2 := HZ.out
              rw [Vt.getTo_err h1 L hlt] at h2
              exact h2
            clear hf1 hf2 HZ HKR
            go_wp2
            have WR := Vm.set6 w2 (w.heap.size + 1) 0 (.int .i64 0) (.int .i64 0) (.int .u64 0) (.string ⟨#[]⟩) (.slice none 0 0) (.slice none 0 0)
            have BX : Vm.Box _ (w.heap.size + 1) (.int .i64 0) (.int .i64 0) (.int .u64 0) (.string ⟨#[]⟩) (.slice none 0 0) (.slice none 0 0) := ⟨Vm.set6_row HR.out.all 0 (.int .i64 0) (.int .i64 0) (.int .u64 0) (.string ⟨#[]⟩) (.slice none 0 0) (.slice none 0 0)⟩
            simp only [Nat.zero_add] at WR BX
            generalize ((((((w2.setCell ⟨w.heap.size + 1, 0, none⟩ (.int .i64 0)).setCell ⟨w.heap.size + 1, 1, none⟩ (.int .i64 0)).setCell ⟨w.heap.size + 1, 2, none⟩ (.int .u64 0)).setCell ⟨w.heap.size + 1, 3, none⟩ (.string ⟨#[]⟩)).setCell ⟨w.heap.size + 1, 4, none⟩ (.slice none 0 0)).setCell ⟨w.heap.size + 1, 5, none⟩ (.slice none 0 0)) = WF at *
            obtain ⟨q0, q1, q2, q3, q4, q5⟩ := BX.cells
            refine bodyPost_ret (v := .tuple #[.agg #[.int .i64 0, .int .i64 0, .int .u64 0, .string ⟨#[]⟩, .slice none 0 0, .slice none 0 0], .int .i64 401]) (by simp [results, Tryd.results10, go_sem, q0, q1, q2, q3, q4, q5]) rfl ?_
            have hbF := WR.below hbr (show w.heap.size ≤ w.heap.size + 1 by omega)
            rw [HZ2.out]
            exact ⟨_, rfl, Vt.zero_own _ _ _ hbF.size, hbF⟩
          | true =>
            obtain ⟨hI, hkI⟩ := hf1 rfl
            have HGT : Hid (Vt.getTo t p (i + 1) = .ok (it I)) := by
              unfold Hid
              rw [HS.out, Vt.under, if_pos rfl, Vt.pos_some HOK.out hkI m (Nat.le_refl _) hI]
            clear hf1 hf2
            have hIn : I < n := by have := HMN.out; omega
            have HIF : Hid (it I).fit := HU.out.1.2 I hIn
            obtain ⟨bi, oi, v0, v1, v2, v3, v4, v5, rfl, hbi, y0, y1, y2, y3, y4, y5, hli⟩ := (HL.out.keys).2.2 I hIn
            have hIc : I < c := Nat.lt_of_lt_of_le hIn (HL.out.keys).2.1.1
            obtain ⟨k', x', b', s', ai', n', c', ak', m', d', rfl, rfl, rfl, rfl, rfl, rfl⟩ := hli.cells
            have hbl := hbr.block bi hbi
            replace y0 := Vt.cell_on hbl y0
            replace y1 := Vt.cell_on hbl y1
            replace y2 := Vt.cell_on hbl y2
            replace y3 := Vt.cell_on hbl y3
            replace y4 := Vt.cell_on hbl y4
            replace y5 := Vt.cell_on hbl y5
            have HLI := Lib.hid hli
            clear hli hbl hkI HKR
            go_wp2
            have WR := Vm.set6 w2 w.heap.size 0 (.int .i64 k') (.int .i64 x') (.int .u64 (b' : Int)) (.string s') (.slice ai' n' c') (.slice ak' m' d')
            have BX : Vm.Box _ w.heap.size (.int .i64 k') (.int .i64 x') (.int .u64 (b' : Int)) (.string s') (.slice ai' n' c') (.slice ak' m' d') := ⟨Vm.set6_row HB.out.all 0 (.int .i64 k') (.int .i64 x') (.int .u64 (b' : Int)) (.string s') (.slice ai' n' c') (.slice ak' m' d')⟩
            simp only [Nat.zero_add] at WR BX
            refine ⟨⟨i + 1, it I, k', x', b', s', ai', n', c', ak', m', d', hlt, by go_num, WR.below hbr (Nat.le_refl _), by rw [WR.size]; exact hsr, BX, ⟨(WR.block _ (by omega)).trans HR.out.all⟩, HLI.out, HIF.out, HGT.out⟩, ?_⟩
            simp [intOf]
            omega
        · have e6 : (k == 6) = false := beq_eq_false_iff_ne.2 k6
          have HZ2 : Hid (Z = (Vt.zero, 402)) := by
            have h1 : Vt.getTo t p (i + 1) = .error 402 := by rw [HS.out, Vt.under, if_neg k6]
            have h2 := HZ.out
            rw [Vt.getTo_err h1 L hlt] at h2
            exact h2
          clear HZ
          go_wp2
          have WR := Vm.set6 wr (w.heap.size + 1) 0 (.int .i64 0) (.int .i64 0) (.int .u64 0) (.string ⟨#[]⟩) (.slice none 0 0) (.slice none 0 0)
          have BX : Vm.Box _ (w.heap.size + 1) (.int .i64 0) (.int .i64 0) (.int .u64 0) (.string ⟨#[]⟩) (.slice none 0 0) (.slice none 0 0) := ⟨Vm.set6_row HR.out.all 0 (.int .i64 0) (.int .i64 0) (.int .u64 0) (.string ⟨#[]⟩) (.slice none 0 0) (.slice none 0 0)⟩
          simp only [Nat.zero_add] at WR BX
          generalize ((((((wr.setCell ⟨w.heap.size + 1, 0, none⟩ (.int .i64 0)).setCell ⟨w.heap.size + 1, 1, none⟩ (.int .i64 0)).setCell ⟨w.heap.size + 1, 2, none⟩ (.int .u64 0)).setCell ⟨w.heap.size + 1, 3, none⟩ (.string ⟨#[]⟩)).setCell ⟨w.heap.size + 1, 4, none⟩ (.slice none 0 0)).setCell ⟨w.heap.size + 1, 5, none⟩ (.slice none 0 0)) = WF at *
          obtain ⟨q0, q1, q2, q3, q4, q5⟩ := BX.cells
          refine bodyPost_ret (v := .tuple #[.agg #[.int .i64 0, .int .i64 0, .int .u64 0, .string ⟨#[]⟩, .slice none 0 0, .slice none 0 0], .int .i64 402]) (by simp [results, Tryd.results10, go_sem, q0, q1, q2, q3, q4, q5]) rfl ?_
          have hbF := WR.below hbr (show w.heap.size ≤ w.heap.size + 1 by omega)
          rw [HZ2.out]
          exact ⟨_, rfl, Vt.zero_own _ _ _ hbF.size, hbF⟩
      · have e : i = L := by omega
        subst e
        have HZ2 : Hid (Z = (u, 0)) := by have h2 := HZ.out; rw [HU.out.2] at h2; exact h2
        have HTD : Hid u.tidy := HU.out.1.tidy
        have HLR := Lib.hid (HL.out.on' hbr)
        clear HZ HU HL
        go_wp2_with fail
        refine (Vc.copied u HTD.out _ _ HLR.out).mono ?_
        rintro e w3 ⟨v', rfl, hown, hbw⟩
        obtain ⟨k3, x3, b3, s3, ai3, n3, c3', ak3, m3, d3, rfl⟩ := hown.form
        have R3 := HR.out.on (by omega) hbw
        have HO := Lib.hid hown
        have hb3 := Vm.then hbr hbw
        have hs3 : wr.heap.size ≤ w3.heap.size := hbw.size
        clear r0 r1 r2 r3 r4 r5 f0 g0 c0 c1 c2 c3 c4 c5 HR hown hbw HLR HB
        obtain ⟨r0, r1, r2, r3, r4, r5⟩ := R3.cells
        have f0 := R3.frozen
        have HR := Lib.hid R3
        clear R3
        go_wp2
        have WR := Vm.set6 w3 (w.heap.size + 1) 0 (.int .i64 k3) (.int .i64 x3) (.int .u64 (b3 : Int)) (.string s3) (.slice ai3 n3 c3') (.slice ak3 m3 d3)
        have BX : Vm.Box _ (w.heap.size + 1) (.int .i64 k3) (.int .i64 x3) (.int .u64 (b3 : Int)) (.string s3) (.slice ai3 n3 c3') (.slice ak3 m3 d3) := ⟨Vm.set6_row HR.out.all 0 (.int .i64 k3) (.int .i64 x3) (.int .u64 (b3 : Int)) (.string s3) (.slice ai3 n3 c3') (.slice ak3 m3 d3)⟩
        simp only [Nat.zero_add] at WR BX
        generalize ((((((w3.setCell ⟨w.heap.size + 1, 0, none⟩ (.int .i64 k3)).setCell ⟨w.heap.size + 1, 1, none⟩ (.int .i64 x3)).setCell ⟨w.heap.size + 1, 2, none⟩ (.int .u64 (b3 : Int))).setCell ⟨w.heap.size + 1, 3, none⟩ (.string s3)).setCell ⟨w.heap.size + 1, 4, none⟩ (.slice ai3 n3 c3')).setCell ⟨w.heap.size + 1, 5, none⟩ (.slice ak3 m3 d3)) = WF at *
        obtain ⟨q0, q1, q2, q3, q4, q5⟩ := BX.cells
        refine bodyPost_ret (v := .tuple #[.agg #[.int .i64 k3, .int .i64 x3, .int .u64 (b3 : Int), .string s3, .slice ai3 n3 c3', .slice ak3 m3 d3], .int .i64 0]) (by simp [results, Tryd.results10, go_sem, q0, q1, q2, q3, q4, q5]) rfl ?_
        have hbF := WR.below hb3 (show w.heap.size ≤ w.heap.size + 1 by omega)
        rw [HZ2.out]
        exact ⟨_, rfl, (HO.out.on fun g l1 l2 => WR.block g (by omega)).wide (by omega) (by rw [WR.size]; exact Nat.le_refl _), hbF⟩
end Go.Proofs.YtggfemdnoccmeaaDoor

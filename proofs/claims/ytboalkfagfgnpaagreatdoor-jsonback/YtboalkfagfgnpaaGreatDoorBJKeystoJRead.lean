/-
  THE WALK of stolelaw10.keysMay.
-/
import Derived.Test.YtboalkfagfgnpaaGreatDoorBJAwtoJMay
import Derived.Test.YtboalkfagfgnpaaGreatDoorBJPut4toJAgain
namespace Go.Proofs.YtboalkfagfgnpaaGreatDoor
open Go.RowKit
def Js.keysB : Nat → Vt → Bool
  | _, .nil => false
  | 0, .mk _ _ _ _ _ _ m ks => Vt.allTo (fun j => Pl.mayL (ks j).data.toList) m
  | e + 1, .mk _ _ _ _ n it m ks => Vt.allTo (fun j => Pl.mayL (ks j).data.toList) m && Vt.allTo (fun i => Js.keysB e (it i)) n
theorem Js.keys_of : ∀ (d : Nat) (t : Vt), Js.keysB d t = true → Js.Keys d t
  | 0, _, _ => trivial
  | d + 1, .nil, h => by cases h
  | d + 1, .mk k x b s n it m ks, h => by
    rw [Js.keysB, Bool.and_eq_true] at h
    exact ⟨fun j hj => Vt.allTo_of h.1 hj, fun i hi => Js.keys_of d (it i) (Vt.allTo_of h.2 hi)⟩
theorem Js.key_small {k x : Int} {b : Nat} {s : ByteArray} {n m : Nat} {ks : Nat → ByteArray} (h : Vt.formed k x b s n m ks = true) {j : Nat} (hj : j < m) : (ks j).size ≤ 32 := by
  have h6 : k = 6 ∧ Vt.keysOk ks m = true := by
    unfold Vt.formed at h
    repeat' split at h
    all_goals first
      | (simp only [Bool.and_eq_true, decide_eq_true_eq] at h; omega)
      | (simp only [Bool.and_eq_true, decide_eq_true_eq] at h; exact ⟨by assumption, h.1.1.1.2⟩)
      | (cases h; done)
  have := Vt.keysOk_of h6.2 hj
  unfold Vt.key at this
  simp only [Bool.and_eq_true, decide_eq_true_eq] at this
  exact this.2
theorem Js.many_small {k x : Int} {b : Nat} {s : ByteArray} {n m : Nat} {ks : Nat → ByteArray} (h : Vt.formed k x b s n m ks = true) : n ≤ 64 ∧ m ≤ 64 := by
  unfold Vt.formed at h
  repeat' split at h
  all_goals first
    | (simp only [Bool.and_eq_true, decide_eq_true_eq] at h; omega)
    | (cases h; done)
set_option maxRecDepth 100000 in
set_option maxHeartbeats 4000000 in
theorem Jb.keysMay : ∀ (d : Nat) (t : Vt), Js.Ok d t → ∀ (e : Nat) (v : Value) (w : World), e ≤ 40 → t.Lies w (· < w.heap.size) v →
    Calls Tryz.prog 13 #[v, .int .i64 (e : Int)] w fun r w' => r = .returned (.bool (Js.keysB e t)) ∧ Below w.heap.size w w' := by
  intro d
  induction d with
  | zero => intro t h; exact h.elim
  | succ d ih =>
    intro t hok e v w he hl
    cases t with
    | nil => exact hok.elim
    | mk k x b s n it m ks =>
      obtain ⟨hf, _, hi⟩ := hok
      obtain ⟨ai, c, ak, dd, rfl, hb, hn, hc, hk, hit⟩ := hl
      have hsm := Js.many_small hf
      have mayc := fun (j : Nat) (hj : j < m) u => Sz.may (ks j) u (by have := Js.key_small hf hj; omega)
      have HIT := Lib.hid hit
      have HK := Lib.hid hk
      have HIH := Lib.hid fun i (hin : i < n) => ih (it i) (hi i hin)
      have hmd := hk.le
      obtain ⟨R, hR⟩ : ∃ R, Js.keysB e (.mk k x b s n it m ks) = R := ⟨_, rfl⟩
      rw [hR]
      have HR := Lib.hid hR
      clear hR hit hk ih hi hf
      go_enter Tryz.func13, Tryz.ntmps13
      go_wp2_with fail
      have BX : Hid (Vm.Box (w.alloc (.cells #[.int .i64 k, .int .i64 x, .int .u64 (b : Int), .string s, .slice ai n c, .slice ak m dd] 26)) w.heap.size _ _ _ _ _ _) := ⟨Vm.new _ _⟩
      have LW := Lib.hid (Jl.below (Below.refl w.heap.size w) (.cells #[.int .i64 k, .int .i64 x, .int .u64 (b : Int), .string s, .slice ai n c, .slice ak m dd] 26))
      generalize w.alloc (.cells #[.int .i64 k, .int .i64 x, .int .u64 (b : Int), .string s, .slice ai n c, .slice ak m dd] 26) = W at *
      go_loopw [5] (fun ix wr => ∃ j : Nat, j ≤ m ∧ ix = .int .i64 (j : Int) ∧ Hid (Vt.allTo (fun j => Pl.mayL (ks j).data.toList) j = true) ∧ Hid (Below W.heap.size W wr)) (fun ix _ => m - (intOf ix).toNat)
      case atStart => exact ⟨0, Nat.zero_le _, rfl, rfl, Below.refl _ _⟩
      case round =>
        obtain ⟨j, hj, rfl, HA, HB⟩ := hrel
        obtain ⟨_, _, _, _, q4, q5⟩ := Vm.Box.cells ⟨(HB.out.block w.heap.size BX.out.lt).trans BX.out.all⟩
        by_cases hlt : j < m
        · have d1 : decide ((j : Int) < (m : Int)) = true := decide_eq_true (by omega)
          obtain ⟨kb, ko, rfl, hkb, z0⟩ := HK.out.cell j hlt
          have hjd : j < dd := by omega
          have z1 := Vt.cell_on ((HB.out.block kb (by have := LW.out.size; omega)).trans (LW.out.block kb hkb)) z0
          have mj := mayc j hlt wr
          cases hmj : Pl.mayL (ks j).data.toList
          · rw [hmj] at mj
            have q : R = false := by
              rw [← HR.out]
              have h0 := Vt.allTo_no (f := fun j => Pl.mayL (ks j).data.toList) hmj hlt
              cases e with
              | zero => exact h0
              | succ e => rw [Js.keysB, h0]; rfl
            subst q
            clear HR HA mayc hmj z0
            go_wp2_with (go_at_call 29; refine mj.mono ?_; rintro r w2 ⟨rfl, b2⟩; have B2 := Lib.hid b2; clear b2)
            go_ret
            exact ⟨rfl, Wk.below_step (LW.out.trans (HB.out.mono LW.out.size)) B2.out⟩
          · rw [hmj] at mj
            have HA2 : Hid (Vt.allTo (fun j => Pl.mayL (ks j).data.toList) (j + 1) = true) := by
              unfold Hid
              rw [Vt.allTo, HA.out, hmj]
              rfl
            clear HR HA mayc hmj z0
            go_wp2_with (go_at_call 29; refine mj.mono ?_; rintro r w2 ⟨rfl, b2⟩; have B2 := Lib.hid b2; clear b2)
            go_roundw
            case rel => exact ⟨j + 1, by omega, by go_num, HA2, Wk.below_step HB.out B2.out⟩
            case measure => simp [intOf]; omega
        · have ej : j = m := by omega
          subst ej
          have d1 : decide ((j : Int) < (j : Int)) = false := decide_eq_false (by omega)
          clear mayc
          go_wp2_with fail
          clear q4 q5 d1 hlt hj
          have HM := HA
          have HW := HB
          clear HA HB
          go_loopw [6] (fun ix wx => ∃ i : Nat, i ≤ n ∧ ix = .int .i64 (i : Int) ∧ Hid (0 < e → Vt.allTo (fun i => Js.keysB (e - 1) (it i)) i = true) ∧ Hid (e = 0 → i = 0) ∧ Hid (Below W.heap.size W wx)) (fun ix _ => n - (intOf ix).toNat)
          case atStart => exact ⟨0, Nat.zero_le _, rfl, (fun _ => rfl), (fun _ => rfl), HW⟩
          case round =>
            obtain ⟨i, hin, rfl, HA, HZ, HB⟩ := hrel
            obtain ⟨_, _, _, _, q4, q5⟩ := Vm.Box.cells ⟨(HB.out.block w.heap.size BX.out.lt).trans BX.out.all⟩
            by_cases hlt : i < n ∧ 0 < e
            · obtain ⟨hlt, h0⟩ := hlt
              have d1 : decide ((i : Int) < (n : Int)) = true := decide_eq_true (by omega)
              have d2 : decide ((0 : Int) < (e : Int)) = true := decide_eq_true (by omega)
              obtain ⟨bi, oi, v0, v1, v2, v3, v4, v5, rfl, hbi, z0, z1, z2, z3, z4, z5, hli⟩ := HIT.out i hlt
              have hic : i < c := by omega
              have hbl := (HB.out.block bi (by have := LW.out.size; omega)).trans (LW.out.block bi hbi)
              replace z0 := Vt.cell_on hbl z0
              replace z1 := Vt.cell_on hbl z1
              replace z2 := Vt.cell_on hbl z2
              replace z3 := Vt.cell_on hbl z3
              replace z4 := Vt.cell_on hbl z4
              replace z5 := Vt.cell_on hbl z5
              obtain ⟨k', x', b', s', ai', n', c', ak', m', d', rfl, rfl, rfl, rfl, rfl, rfl⟩ := hli.cells
              have LX := LW.out.trans (HB.out.mono LW.out.size)
              have km := HIH.out i hlt (e - 1) _ _ (by omega) ((hli.below LX).le LX.size)
              rw [show ((e - 1 : Nat) : Int) = (e : Int) - 1 by omega] at km
              have HLX := Lib.hid LX
              clear hbl hli LX
              cases hkb : Js.keysB (e - 1) (it i)
              · rw [hkb] at km
                have q : R = false := by
                  rw [← HR.out]
                  have h1 := Vt.allTo_no (f := fun i => Js.keysB (e - 1) (it i)) hkb hlt
                  cases e with
                  | zero => omega
                  | succ e =>
                    rw [Js.keysB]
                    rw [show e + 1 - 1 = e from rfl] at h1
                    rw [h1, Bool.and_false]
                subst q
                clear HR HA HZ hkb HIT HK HIH HM
                go_wp2_with (go_at_call 13; refine km.mono ?_; rintro r w2 ⟨rfl, b2⟩; have B2 := Lib.hid b2; clear b2)
                go_ret
                exact ⟨rfl, Wk.below_step HLX.out B2.out⟩
              · rw [hkb] at km
                have HA2 : Hid (0 < e → Vt.allTo (fun i => Js.keysB (e - 1) (it i)) (i + 1) = true) := fun h => by
                  rw [Vt.allTo, HA.out h, hkb]
                  rfl
                have HZ2 : Hid (e = 0 → i + 1 = 0) := fun h => by omega
                clear HR HA HZ hkb HIT HK HIH HM
                go_wp2_with (go_at_call 13; refine km.mono ?_; rintro r w2 ⟨rfl, b2⟩; have B2 := Lib.hid b2; clear b2)
                go_roundw
                case rel => exact ⟨i + 1, by omega, by go_num, HA2, HZ2, Wk.below_step HB.out B2.out⟩
                case measure => simp [intOf]; omega
            · have q : R = true := by
                rw [← HR.out]
                cases e with
                | zero => exact HM.out
                | succ e =>
                  have : i = n := by omega
                  subst this
                  rw [Js.keysB, HM.out]
                  exact HA.out (Nat.succ_pos _)
              subst q
              clear HR HIT HK HIH HM HA
              by_cases h1 : i < n
              · have d1 : decide ((i : Int) < (n : Int)) = true := decide_eq_true (by omega)
                have d2 : decide ((0 : Int) < (e : Int)) = false := decide_eq_false (by omega)
                go_wp2_with fail
                go_ret
                exact ⟨rfl, LW.out.trans (HB.out.mono LW.out.size)⟩
              · have d1 : decide ((i : Int) < (n : Int)) = false := decide_eq_false (by omega)
                go_wp2_with fail
                go_ret
                exact ⟨rfl, LW.out.trans (HB.out.mono LW.out.size)⟩
end Go.Proofs.YtboalkfagfgnpaaGreatDoor
/-
  PLAIN: no byte of what is put ends a script.
-/
namespace Go.Proofs.YtboalkfagfgnpaaGreatDoor
def Js.good (c : UInt8) : Bool := decide (32 ≤ c.toNat) && !decide (c = 60) && !decide (c = 62) && !decide (c = 38) && !decide (c = 39)
def Js.dirty : List UInt8 → Bool
  | [] => false
  | c :: r => Js.line c r || Js.dirty r
theorem Js.all {p : UInt8 → Bool} (h : (List.range 256).all (fun n => p (UInt8.ofNat n)) = true) (c : UInt8) : p c = true := by
  have := List.all_eq_true.1 h c.toNat (List.mem_range.2 c.toNat_lt)
  simpa using this
theorem Js.byte_good (c : UInt8) : ∀ d ∈ Js.byte c, Js.good d = true := by
  have h := Js.all (p := fun c => (Js.byte c).all Js.good) (by decide +kernel) c
  exact List.all_eq_true.1 h
theorem Js.escK_good : ∀ (k : Nat) (l : List UInt8), ∀ d ∈ Js.escK k l, Js.good d = true
  | _, [], d, hd => by simp [Js.escK] at hd
  | k + 1, c :: r, d, hd => Js.escK_good k r d hd
  | 0, c :: r, d, hd => by
    rw [Js.escK] at hd
    split at hd
    · rename_i hl
      obtain ⟨_, t, ht⟩ := Js.line_parts hl
      rcases List.mem_append.1 hd with q | q
      · rcases ht with rfl | rfl
        · have : ∀ d ∈ ([92, 117, 50, 48, 50, 48 + (168 - 160)] : List UInt8), Js.good d = true := by decide
          exact this d q
        · have : ∀ d ∈ ([92, 117, 50, 48, 50, 48 + (169 - 160)] : List UInt8), Js.good d = true := by decide
          exact this d q
      · exact Js.escK_good 2 r d q
    · rcases List.mem_append.1 hd with q | q
      · exact Js.byte_good c d q
      · exact Js.escK_good 0 r d q
theorem Js.quoted_good (l : List UInt8) : ∀ d ∈ Js.quoted l, Js.good d = true := by
  intro d hd
  unfold Js.quoted at hd
  rcases List.mem_cons.1 hd with rfl | q
  · decide
  · rcases List.mem_append.1 q with q | q
    · exact Js.escK_good 0 _ d q
    · rw [List.mem_singleton.1 q]
      decide
theorem Js.digit_good (c : UInt8) (h : Pl.digit c = true) : Js.good c = true := by
  have h1 := Js.all (p := fun c => !Pl.digit c || Js.good c) (by decide +kernel) c
  rw [h] at h1
  exact h1
theorem Js.itoa_good (x : Int) : ∀ d ∈ Lib.itoa x, Js.good d = true := by
  intro c hc
  unfold Lib.itoa at hc
  split at hc
  · rcases List.mem_cons.1 hc with rfl | q
    · decide
    · exact Js.digit_good c (Js.dec_all _ c q)
  · exact Js.digit_good c (Js.dec_all _ c hc)
theorem Js.real_good (b : Nat) : ∀ d ∈ Js.real b, Js.good d = true := by
  unfold Js.real
  split
  · decide
  · rename_i h1
    split
    · exact Js.quoted_good _
    · rename_i h2
      have hk : Re.kind b = 2 ∨ Re.kind b = 3 := by have := Js.kind_le b; omega
      unfold Re.text
      rcases hk with hk | hk
      · rw [hk]
        show ∀ d ∈ Re.sign b ++ [48], _
        unfold Re.sign
        split <;> decide
      · rw [hk]
        exact Js.itoa_good _
theorem Js.cat_mem {f : Nat → List UInt8} {d : UInt8} : ∀ {n : Nat}, d ∈ Js.cat f n → ∃ i, i < n ∧ d ∈ f i
  | 0, h => by cases h
  | n + 1, h => by
    rcases List.mem_append.1 h with q | q
    · obtain ⟨i, hi, hd⟩ := Js.cat_mem q
      exact ⟨i, by omega, hd⟩
    · exact ⟨n, by omega, q⟩
theorem Js.comma_good (i : Nat) : ∀ d ∈ Js.comma i, Js.good d = true := by
  unfold Js.comma
  split <;> decide
theorem Js.put_good : ∀ (t : Vt), ∀ d ∈ Js.put t, Js.good d = true := by
  intro t
  induction t with
  | nil => intro d hd; cases hd
  | mk k x b s n it m ks ih =>
    rw [Js.put]
    split
    · decide
    · split
      · split <;> decide
      · split
        · exact Js.itoa_good x
        · split
          · exact Js.real_good b
          · split
            · exact Js.quoted_good _
            · split
              · intro d hd
                rcases List.mem_cons.1 hd with rfl | q
                · decide
                · rcases List.mem_append.1 q with q | q
                  · obtain ⟨i, _, q⟩ := Js.cat_mem q
                    rcases List.mem_append.1 q with q | q
                    · exact Js.comma_good i d q
                    · exact ih i d q
                  · rw [List.mem_singleton.1 q]
                    decide
              · intro d hd
                rcases List.mem_cons.1 hd with rfl | q
                · decide
                · rcases List.mem_append.1 q with q | q
                  · obtain ⟨i, _, q⟩ := Js.cat_mem q
                    rcases List.mem_append.1 q with q | q
                    · exact Js.comma_good i d q
                    · rcases List.mem_append.1 q with q | q
                      · exact Js.quoted_good _ d q
                      · rcases List.mem_cons.1 q with rfl | q
                        · decide
                        · exact ih i d q
                  · rw [List.mem_singleton.1 q]
                    decide
/-- begins with no byte from 128 on -/
def Js.low : List UInt8 → Bool
  | [] => true
  | c :: _ => decide (c.toNat < 128)
theorem Js.line_append {c : UInt8} {r b : List UInt8} (hb : Js.low b = true) : Js.line c (r ++ b) = Js.line c r := by
  have hc : ∀ d t, b = d :: t → d.toNat < 128 := fun d t q => by rw [q] at hb; exact of_decide_eq_true hb
  unfold Js.line
  match r with
  | x :: y :: r => rfl
  | [x] =>
    cases b with
    | nil => rfl
    | cons d t =>
      have h := hc d t rfl
      have h1 : d ≠ 168 := fun q => by rw [q] at h; exact absurd h (by decide)
      have h2 : d ≠ 169 := fun q => by rw [q] at h; exact absurd h (by decide)
      simp [h1, h2]
  | [] =>
    cases b with
    | nil => rfl
    | cons d t =>
      have h := hc d t rfl
      have h1 : d ≠ 128 := fun q => by rw [q] at h; exact absurd h (by decide)
      simp [h1]
theorem Js.dirty_append {b : List UInt8} (hb : Js.low b = true) : ∀ a : List UInt8, Js.dirty (a ++ b) = (Js.dirty a || Js.dirty b)
  | [] => rfl
  | c :: a => by
    rw [List.cons_append, Js.dirty, Js.dirty, Js.line_append hb, Js.dirty_append hb a, Bool.or_assoc]
theorem Js.dirty_ascii : ∀ (a b : List UInt8), (∀ c ∈ a, c.toNat < 128) → Js.dirty (a ++ b) = Js.dirty b
  | [], _, _ => rfl
  | c :: a, b, h => by
    have hc := h c List.mem_cons_self
    rw [List.cons_append, Js.dirty, Js.line_not (fun q => by rw [q] at hc; exact absurd hc (by decide)), Js.dirty_ascii a b fun d hd => h d (List.mem_cons_of_mem _ hd)]
    rfl
theorem Js.byte_low (c : UInt8) (h : c.toNat < 128) : ∀ d ∈ Js.byte c, d.toNat < 128 := by
  have h1 := Js.all (p := fun c => decide (128 ≤ c.toNat) || (Js.byte c).all fun d => decide (d.toNat < 128)) (by decide +kernel) c
  rw [decide_eq_false (by omega), Bool.false_or] at h1
  intro d hd
  exact of_decide_eq_true (List.all_eq_true.1 h1 d hd)
/-- a great byte ahead of what Escape writes was there -/
theorem Js.esc_first {l t : List UInt8} {d : UInt8} (hd : 128 ≤ d.toNat) (h : Js.escS l = d :: t) : ∃ r, l = d :: r ∧ t = Js.escS r := by
  cases l with
  | nil => cases h
  | cons c r =>
    cases hl : Js.line c r
    · rw [Js.escS_byte hl] at h
      by_cases hc : c.toNat < 128
      · have h1 := Js.byte_low c hc
        have h2 := (Js.byte_len c).1
        cases hb : Js.byte c with
        | nil => rw [hb] at h2; simp at h2
        | cons x y =>
          rw [hb] at h h1
          injection h with h3 h4
          have := h1 x List.mem_cons_self
          rw [h3] at this
          omega
      · rw [Js.byte_high (by omega)] at h
        injection h with h3 h4
        exact ⟨r, by rw [h3], h4.symm⟩
    · rw [Js.escS_line hl] at h
      injection h with h3 _
      rw [← h3] at hd
      exact absurd hd (by decide)
theorem Js.line_esc {c : UInt8} {r : List UInt8} (h : Js.line c r = false) : Js.line c (Js.escS r) = false := by
  cases q : Js.line c (Js.escS r)
  · rfl
  · exfalso
    obtain ⟨rfl, t, ht⟩ := Js.line_parts q
    rcases ht with ht | ht
    all_goals
      obtain ⟨r1, e1, e2⟩ := Js.esc_first (by decide) ht
      obtain ⟨r2, e3, _⟩ := Js.esc_first (by decide) e2.symm
      rw [e1, e3] at h
      exact absurd h (by simp [Js.line])
theorem Js.dirty_escK : ∀ (k : Nat) (l : List UInt8), Js.dirty (Js.escK k l) = false
  | _, [] => by simp [Js.escK, Js.dirty]
  | k + 1, c :: r => Js.dirty_escK k r
  | 0, c :: r => by
    rw [Js.escK]
    split
    · rename_i hl
      obtain ⟨_, t, ht⟩ := Js.line_parts hl
      rw [Js.dirty_ascii _ _ ?_]
      · exact Js.dirty_escK 2 r
      · rcases ht with rfl | rfl
        · have : ∀ d ∈ ([92, 117, 50, 48, 50, 48 + (168 - 160)] : List UInt8), d.toNat < 128 := by decide
          exact this
        · have : ∀ d ∈ ([92, 117, 50, 48, 50, 48 + (169 - 160)] : List UInt8), d.toNat < 128 := by decide
          exact this
    · rename_i hl
      by_cases hc : c.toNat < 128
      · rw [Js.dirty_ascii _ _ (Js.byte_low c hc)]
        exact Js.dirty_escK 0 r
      · rw [Js.byte_high (by omega)]
        show (Js.line c (Js.escS r) || Js.dirty (Js.escK 0 r)) = false
        rw [Js.line_esc (Bool.eq_false_iff.2 hl), Js.dirty_escK 0 r]
        rfl
theorem Js.dirty_quoted (l : List UInt8) : Js.dirty (Js.quoted l) = false := by
  unfold Js.quoted
  rw [Js.dirty, Js.line_not (by decide), Js.dirty_append rfl]
  show (false || (Js.dirty (Js.escK 0 (Pl.normL l)) || Js.dirty [34])) = false
  rw [Js.dirty_escK]
  rfl
theorem Js.dirty_low {a : List UInt8} (h : ∀ c ∈ a, c.toNat < 128) : Js.dirty a = false := by
  have := Js.dirty_ascii a [] h
  rw [List.append_nil] at this
  exact this
theorem Js.dirty_cat {f : Nat → List UInt8} : ∀ {n : Nat}, (∀ i, i < n → Js.dirty (f i) = false ∧ Js.low (f i) = true) → Js.dirty (Js.cat f n) = false
  | 0, _ => rfl
  | n + 1, h => by
    rw [Js.cat, Js.dirty_append (h n (by omega)).2, Js.dirty_cat fun i hi => h i (by omega), (h n (by omega)).1]
    rfl
theorem Js.real_low (b : Nat) : Js.dirty (Js.real b) = false := by
  unfold Js.real
  split
  · decide
  · split
    · exact Js.dirty_quoted _
    · exact Js.dirty_low fun c hc => (Js.real_ascii b c hc).2
theorem Js.begins_low (c : UInt8) (h : Js.begins c = true) : c.toNat < 128 := by
  have h1 := Js.all (p := fun c => !Js.begins c || decide (c.toNat < 128)) (by decide +kernel) c
  rw [h] at h1
  exact of_decide_eq_true (by simpa using h1)
theorem Js.put_clean : ∀ (d : Nat) (t : Vt), Js.Ok d t → Js.dirty (Js.put t) = false
  | 0, _, h => h.elim
  | d + 1, .nil, h => h.elim
  | d + 1, .mk k x b s n it m ks, ⟨hf, hb, hi⟩ => by
    have hp : ∀ i, i < n → Js.dirty (Js.put (it i)) = false ∧ Js.low (Js.put (it i)) = true := fun i hin => by
      refine ⟨Js.put_clean d (it i) (hi i hin), ?_⟩
      obtain ⟨c, l, e, hc⟩ := Js.put_head (hi i hin)
      rw [e]
      exact decide_eq_true (Js.begins_low c hc)
    have hcm : ∀ i b, Js.low b = true → Js.dirty b = false → Js.dirty (Js.comma i ++ b) = false ∧ Js.low (Js.comma i ++ b) = true := fun i b h1 h2 => by
      unfold Js.comma
      split
      · exact ⟨h2, h1⟩
      · refine ⟨?_, rfl⟩
        show Js.dirty (44 :: b) = false
        rw [Js.dirty, Js.line_not (by decide), h2]
        rfl
    rw [Js.put]
    split
    · decide
    · split
      · split <;> decide
      · split
        · exact Js.dirty_low fun c hc => (Js.itoa_ascii x c hc).2
        · split
          · exact Js.real_low b
          · split
            · exact Js.dirty_quoted _
            · split
              · rw [Js.dirty, Js.line_not (by decide), Js.dirty_append rfl, Js.dirty_cat fun i hin => hcm i _ (hp i hin).2 (hp i hin).1]
                rfl
              · rw [Js.dirty, Js.line_not (by decide), Js.dirty_append rfl, Js.dirty_cat fun i hin => hcm i _ rfl ?_]
                · rfl
                · rw [Js.dirty_append rfl, Js.dirty_quoted, Js.dirty, Js.line_not (by decide), (hp i hin).1]
                  rfl
end Go.Proofs.YtboalkfagfgnpaaGreatDoor
/-
  PLAIN: what stolelaw10.read gives.
-/
namespace Go.Proofs.YtboalkfagfgnpaaGreatDoor
open Go.RowKit
def Js.readT : Nat → Vt → Vt
  | _, .nil => .nil
  | 0, .mk k x b s _ _ m ks => if k = 3 then Js.realBack b else .mk k x 0 ⟨(Pl.normL s.data.toList).toArray⟩ 0 (fun _ => .nil) m ks
  | e + 1, .mk k x b s n it m ks => if k = 3 then Js.realBack b else .mk k x 0 ⟨(Pl.normL s.data.toList).toArray⟩ n (fun i => Js.readT e (it i)) m ks
theorem Js.leaf_eq (k x : Int) (b : Nat) (s : ByteArray) : (Js.leaf k x b s).eq (Js.leaf k x b s) = true := Jl.leaf_eq k x b s
theorem Js.real_eq (b : Nat) : (Js.realBack b).eq (Js.realBack b) = true := by
  unfold Js.realBack
  repeat' split
  all_goals exact Js.leaf_eq _ _ _ _
theorem Js.empty_text {k x : Int} {b : Nat} {s : ByteArray} {n m : Nat} {ks : Nat → ByteArray} (h : Vt.formed k x b s n m ks = true) (h4 : k ≠ 4) : s.toList = [] := by
  unfold Vt.formed at h
  repeat' split at h
  all_goals first
    | (cases h; done)
    | (exfalso; omega)
    | (simp only [Bool.and_eq_true, List.isEmpty_iff] at h; simp only [h])
theorem Js.read_eq : ∀ (d : Nat) (t : Vt) (e : Nat), Js.Ok d t → d ≤ e → (Js.back t).eq (Js.readT e t) = true
  | 0, _, _, h, _ => h.elim
  | _ + 1, .nil, _, h, _ => h.elim
  | d + 1, .mk k x b s n it m ks, 0, _, he => by omega
  | d + 1, .mk k x b s n it m ks, e + 1, ⟨hf, hb, hi⟩, he => by
    have hn0 : ∀ {a c : ByteArray}, a.toList = [] → c.toList = [] → (a.toList == c.toList) = true := fun h1 h2 => by rw [h1, h2]; rfl
    have hnil : (⟨#[]⟩ : ByteArray).toList = [] := ByteArray.toList_eq _
    have hs : k ≠ 4 → (⟨(Pl.normL s.data.toList).toArray⟩ : ByteArray).toList = [] := fun h4 => by
      have := Js.empty_text hf h4
      rw [ByteArray.toList_eq] at this ⊢
      rw [this]
      rfl
    have hsk : Vt.sameKeys m m (fun j => if j < m then ks j else ⟨#[]⟩) ks = true := by
      unfold Vt.sameKeys
      rw [decide_eq_true rfl, Bool.true_and]
      exact Vt.allTo_iff.2 fun j hj => by simp only [if_pos hj]; exact beq_self_eq_true _
    have hit : Vt.allTo (fun i => (if i < n then Js.back (it i) else .nil : Vt).eq (Js.readT e (it i))) n = true := Vt.allTo_iff.2 fun i hin => by
      rw [if_pos hin]
      exact Js.read_eq d (it i) e (hi i hin) (by omega)
    rw [Js.back, Js.readT]
    rcases Js.formed_leaf hf with ⟨rfl, rfl⟩ | ⟨rfl, hx⟩ | ⟨rfl, hx⟩ | rfl | rfl | ⟨rfl, rfl⟩ | ⟨rfl, rfl⟩
    · have h1 := Js.formed_low hf (by decide)
      have h2 : m = 0 := by simp [Vt.formed] at hf; exact hf.2
      subst h1 h2
      show (Js.leaf 0 0 0 ⟨#[]⟩).eq (.mk 0 0 0 ⟨(Pl.normL s.data.toList).toArray⟩ 0 (fun i => Js.readT e (it i)) 0 ks) = true
      unfold Js.leaf
      rw [Vt.eq, hn0 hnil (hs (by decide))]
      simp [Vt.sameKeys, Vt.allTo]
    · have h1 := Js.formed_low hf (by decide)
      have h2 : m = 0 := by simp [Vt.formed] at hf; exact hf.2
      subst h1 h2
      show (Js.leaf 1 x 0 ⟨#[]⟩).eq (.mk 1 x 0 ⟨(Pl.normL s.data.toList).toArray⟩ 0 (fun i => Js.readT e (it i)) 0 ks) = true
      unfold Js.leaf
      rw [Vt.eq, hn0 hnil (hs (by decide))]
      simp [Vt.sameKeys, Vt.allTo]
    · have h1 := Js.formed_low hf (by decide)
      have h2 : m = 0 := by simp [Vt.formed] at hf; exact hf.2
      subst h1 h2
      show (Js.leaf 2 x 0 ⟨#[]⟩).eq (.mk 2 x 0 ⟨(Pl.normL s.data.toList).toArray⟩ 0 (fun i => Js.readT e (it i)) 0 ks) = true
      unfold Js.leaf
      rw [Vt.eq, hn0 hnil (hs (by decide))]
      simp [Vt.sameKeys, Vt.allTo]
    · exact Js.real_eq b
    · have h1 := Js.formed_low hf (by decide)
      have h2 : m = 0 ∧ x = 0 := by simp [Vt.formed] at hf; exact ⟨hf.2, hf.1.1.1.2⟩
      obtain ⟨h2, h3⟩ := h2
      subst h1 h2 h3
      show (Js.leaf 4 0 0 ⟨(Pl.normL s.data.toList).toArray⟩).eq (.mk 4 0 0 ⟨(Pl.normL s.data.toList).toArray⟩ 0 (fun i => Js.readT e (it i)) 0 ks) = true
      unfold Js.leaf
      rw [Vt.eq]
      simp [Vt.sameKeys, Vt.allTo]
    · have h3 : x = 0 := by simp [Vt.formed] at hf; omega
      subst h3
      show (Vt.mk 5 0 0 ⟨#[]⟩ n (fun i => if i < n then Js.back (it i) else .nil) 0 (fun j => if j < 0 then ks j else ⟨#[]⟩)).eq (.mk 5 0 0 ⟨(Pl.normL s.data.toList).toArray⟩ n (fun i => Js.readT e (it i)) 0 ks) = true
      rw [Vt.eq, hn0 hnil (hs (by decide)), hit, hsk]
      simp
    · have h3 : x = 0 := by simp [Vt.formed] at hf; exact hf.1.1.2
      subst h3
      show (Vt.mk 6 0 0 ⟨#[]⟩ m (fun i => if i < m then Js.back (it i) else .nil) m (fun j => if j < m then ks j else ⟨#[]⟩)).eq (.mk 6 0 0 ⟨(Pl.normL s.data.toList).toArray⟩ m (fun i => Js.readT e (it i)) m ks) = true
      rw [Vt.eq, hn0 hnil (hs (by decide)), hit, hsk]
      simp
end Go.Proofs.YtboalkfagfgnpaaGreatDoor

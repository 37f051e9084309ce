/-
  PLAIN: no byte of what is put ends a script.
-/
import Derived.Test.YtiajclmhimkpnaaDoorBJPut3toJPut4
import Derived.Test.YtiajclmhimkpnaaDoorBSize
import Derived.Test.YtiajclmhimkpnaaDoorBQPlaintoNorm
import Derived.Laws.AppendOwn
import Derived.Lib.Hide
import Derived.Laws.OwnMore
import Derived.Deep.RegionLaw
namespace Go.Proofs.YtiajclmhimkpnaaDoor
def Js.good (c : UInt8) : Bool := decide (32 ≤ c.toNat) && !decide (c = 60) && !decide (c = 62) && !decide (c = 38) && !decide (c = 39)
def Js.dirty : List UInt8 → Bool
  | [] => false
  | c :: r => Js.line c r || Js.dirty r
theorem Js.all {p : UInt8 → Bool} (h : (List.range 256).all (fun n => p (UInt8.ofNat n)) = true) (c : UInt8) : p c = true := by
  have := List.all_eq_true.1 h c.toNat (List.mem_range.2 c.toNat_lt)
  simpa using this
theorem Js.byte_good (c : UInt8) : ∀ d ∈ Js.byte c, Js.good d = true := by
  have h := Js.all (p := fun c => (Js.byte c).all Js.good) (by decide +kernel) c
  exact List.all_eq_true.1 h
theorem Js.escK_good : ∀ (k : Nat) (l : List UInt8), ∀ d ∈ Js.escK k l, Js.good d = true
  | _, [], d, hd => by simp [Js.escK] at hd
  | k + 1, c :: r, d, hd => Js.escK_good k r d hd
  | 0, c :: r, d, hd => by
    rw [Js.escK] at hd
    split at hd
    · rename_i hl
      obtain ⟨_, t, ht⟩ := Js.line_parts hl
      rcases List.mem_append.1 hd with q | q
      · rcases ht with rfl | rfl
        · have : ∀ d ∈ ([92, 117, 50, 48, 50, 48 + (168 - 160)] : List UInt8), Js.good d = true := by decide
          exact this d q
        · have : ∀ d ∈ ([92, 117, 50, 48, 50, 48 + (169 - 160)] : List UInt8), Js.good d = true := by decide
          exact this d q
      · exact Js.escK_good 2 r d q
    · rcases List.mem_append.1 hd with q | q
      · exact Js.byte_good c d q
      · exact Js.escK_good 0 r d q
theorem Js.quoted_good (l : List UInt8) : ∀ d ∈ Js.quoted l, Js.good d = true := by
  intro d hd
  unfold Js.quoted at hd
  rcases List.mem_cons.1 hd with rfl | q
  · decide
  · rcases List.mem_append.1 q with q | q
    · exact Js.escK_good 0 _ d q
    · rw [List.mem_singleton.1 q]
      decide
theorem Js.digit_good (c : UInt8) (h : Pl.digit c = true) : Js.good c = true := by
  have h1 := Js.all (p := fun c => !Pl.digit c || Js.good c) (by decide +kernel) c
  rw [h] at h1
  exact h1
theorem Js.itoa_good (x : Int) : ∀ d ∈ Lib.itoa x, Js.good d = true := by
  intro c hc
  unfold Lib.itoa at hc
  split at hc
  · rcases List.mem_cons.1 hc with rfl | q
    · decide
    · exact Js.digit_good c (Js.dec_all _ c q)
  · exact Js.digit_good c (Js.dec_all _ c hc)
theorem Js.real_good (b : Nat) : ∀ d ∈ Js.real b, Js.good d = true := by
  unfold Js.real
  split
  · decide
  · rename_i h1
    split
    · exact Js.quoted_good _
    · rename_i h2
      have hk : Re.kind b = 2 ∨ Re.kind b = 3 := by have := Js.kind_le b; omega
      unfold Re.text
      rcases hk with hk | hk
      · rw [hk]
        show ∀ d ∈ Re.sign b ++ [48], _
        unfold Re.sign
        split <;> decide
      · rw [hk]
        exact Js.itoa_good _
theorem Js.cat_mem {f : Nat → List UInt8} {d : UInt8} : ∀ {n : Nat}, d ∈ Js.cat f n → ∃ i, i < n ∧ d ∈ f i
  | 0, h => by cases h
  | n + 1, h => by
    rcases List.mem_append.1 h with q | q
    · obtain ⟨i, hi, hd⟩ := Js.cat_mem q
      exact ⟨i, by omega, hd⟩
    · exact ⟨n, by omega, q⟩
theorem Js.comma_good (i : Nat) : ∀ d ∈ Js.comma i, Js.good d = true := by
  unfold Js.comma
  split <;> decide
theorem Js.put_good : ∀ (t : Vt), ∀ d ∈ Js.put t, Js.good d = true := by
  intro t
  induction t with
  | nil => intro d hd; cases hd
  | mk k x b s n it m ks ih =>
    rw [Js.put]
    split
    · decide
    · split
      · split <;> decide
      · split
        · exact Js.itoa_good x
        · split
          · exact Js.real_good b
          · split
            · exact Js.quoted_good _
            · split
              · intro d hd
                rcases List.mem_cons.1 hd with rfl | q
                · decide
                · rcases List.mem_append.1 q with q | q
                  · obtain ⟨i, _, q⟩ := Js.cat_mem q
                    rcases List.mem_append.1 q with q | q
                    · exact Js.comma_good i d q
                    · exact ih i d q
                  · rw [List.mem_singleton.1 q]
                    decide
              · intro d hd
                rcases List.mem_cons.1 hd with rfl | q
                · decide
                · rcases List.mem_append.1 q with q | q
                  · obtain ⟨i, _, q⟩ := Js.cat_mem q
                    rcases List.mem_append.1 q with q | q
                    · exact Js.comma_good i d q
                    · rcases List.mem_append.1 q with q | q
                      · exact Js.quoted_good _ d q
                      · rcases List.mem_cons.1 q with rfl | q
                        · decide
                        · exact ih i d q
                  · rw [List.mem_singleton.1 q]
                    decide
/-- begins with no byte from 128 on -/
def Js.low : List UInt8 → Bool
  | [] => true
  | c :: _ => decide (c.toNat < 128)
theorem Js.line_append {c : UInt8} {r b : List UInt8} (hb : Js.low b = true) : Js.line c (r ++ b) = Js.line c r := by
  have hc : ∀ d t, b = d :: t → d.toNat < 128 := fun d t q => by rw [q] at hb; exact of_decide_eq_true hb
  unfold Js.line
  match r with
  | x :: y :: r => rfl
  | [x] =>
    cases b with
    | nil => rfl
    | cons d t =>
      have h := hc d t rfl
      have h1 : d ≠ 168 := fun q => by rw [q] at h; exact absurd h (by decide)
      have h2 : d ≠ 169 := fun q => by rw [q] at h; exact absurd h (by decide)
      simp [h1, h2]
  | [] =>
    cases b with
    | nil => rfl
    | cons d t =>
      have h := hc d t rfl
      have h1 : d ≠ 128 := fun q => by rw [q] at h; exact absurd h (by decide)
      simp [h1]
theorem Js.dirty_append {b : List UInt8} (hb : Js.low b = true) : ∀ a : List UInt8, Js.dirty (a ++ b) = (Js.dirty a || Js.dirty b)
  | [] => rfl
  | c :: a => by
    rw [List.cons_append, Js.dirty, Js.dirty, Js.line_append hb, Js.dirty_append hb a, Bool.or_assoc]
theorem Js.dirty_ascii : ∀ (a b : List UInt8), (∀ c ∈ a, c.toNat < 128) → Js.dirty (a ++ b) = Js.dirty b
  | [], _, _ => rfl
  | c :: a, b, h => by
    have hc := h c List.mem_cons_self
    rw [List.cons_append, Js.dirty, Js.line_not (fun q => by rw [q] at hc; exact absurd hc (by decide)), Js.dirty_ascii a b fun d hd => h d (List.mem_cons_of_mem _ hd)]
    rfl
theorem Js.byte_low (c : UInt8) (h : c.toNat < 128) : ∀ d ∈ Js.byte c, d.toNat < 128 := by
  have h1 := Js.all (p := fun c => decide (128 ≤ c.toNat) || (Js.byte c).all fun d => decide (d.toNat < 128)) (by decide +kernel) c
  rw [decide_eq_false (by omega), Bool.false_or] at h1
  intro d hd
  exact of_decide_eq_true (List.all_eq_true.1 h1 d hd)
/-- a great byte ahead of what Escape writes was there -/
theorem Js.esc_first {l t : List UInt8} {d : UInt8} (hd : 128 ≤ d.toNat) (h : Js.escS l = d :: t) : ∃ r, l = d :: r ∧ t = Js.escS r := by
  cases l with
  | nil => cases h
  | cons c r =>
    cases hl : Js.line c r
    · rw [Js.escS_byte hl] at h
      by_cases hc : c.toNat < 128
      · have h1 := Js.byte_low c hc
        have h2 := (Js.byte_len c).1
        cases hb : Js.byte c with
        | nil => rw [hb] at h2; simp at h2
        | cons x y =>
          rw [hb] at h h1
          injection h with h3 h4
          have := h1 x List.mem_cons_self
          rw [h3] at this
          omega
      · rw [Js.byte_high (by omega)] at h
        injection h with h3 h4
        exact ⟨r, by rw [h3], h4.symm⟩
    · rw [Js.escS_line hl] at h
      injection h with h3 _
      rw [← h3] at hd
      exact absurd hd (by decide)
theorem Js.line_esc {c : UInt8} {r : List UInt8} (h : Js.line c r = false) : Js.line c (Js.escS r) = false := by
  cases q : Js.line c (Js.escS r)
  · rfl
  · exfalso
    obtain ⟨rfl, t, ht⟩ := Js.line_parts q
    rcases ht with ht | ht
    all_goals
      obtain ⟨r1, e1, e2⟩ := Js.esc_first (by decide) ht
      obtain ⟨r2, e3, _⟩ := Js.esc_first (by decide) e2.symm
      rw [e1, e3] at h
      exact absurd h (by simp [Js.line])
theorem Js.dirty_escK : ∀ (k : Nat) (l : List UInt8), Js.dirty (Js.escK k l) = false
  | _, [] => by simp [Js.escK, Js.dirty]
  | k + 1, c :: r => Js.dirty_escK k r
  | 0, c :: r => by
    rw [Js.escK]
    split
    · rename_i hl
      obtain ⟨_, t, ht⟩ := Js.line_parts hl
      rw [Js.dirty_ascii _ _ ?_]
      · exact Js.dirty_escK 2 r
      · rcases ht with rfl | rfl
        · have : ∀ d ∈ ([92, 117, 50, 48, 50, 48 + (168 - 160)] : List UInt8), d.toNat < 128 := by decide
          exact this
        · have : ∀ d ∈ ([92, 117, 50, 48, 50, 48 + (169 - 160)] : List UInt8), d.toNat < 128 := by decide
          exact this
    · rename_i hl
      by_cases hc : c.toNat < 128
      · rw [Js.dirty_ascii _ _ (Js.byte_low c hc)]
        exact Js.dirty_escK 0 r
      · rw [Js.byte_high (by omega)]
        show (Js.line c (Js.escS r) || Js.dirty (Js.escK 0 r)) = false
        rw [Js.line_esc (Bool.eq_false_iff.2 hl), Js.dirty_escK 0 r]
        rfl
theorem Js.dirty_quoted (l : List UInt8) : Js.dirty (Js.quoted l) = false := by
  unfold Js.quoted
  rw [Js.dirty, Js.line_not (by decide), Js.dirty_append rfl]
  show (false || (Js.dirty (Js.escK 0 (Pl.normL l)) || Js.dirty [34])) = false
  rw [Js.dirty_escK]
  rfl
theorem Js.dirty_low {a : List UInt8} (h : ∀ c ∈ a, c.toNat < 128) : Js.dirty a = false := by
  have := Js.dirty_ascii a [] h
  rw [List.append_nil] at this
  exact this
theorem Js.dirty_cat {f : Nat → List UInt8} : ∀ {n : Nat}, (∀ i, i < n → Js.dirty (f i) = false ∧ Js.low (f i) = true) → Js.dirty (Js.cat f n) = false
  | 0, _ => rfl
  | n + 1, h => by
    rw [Js.cat, Js.dirty_append (h n (by omega)).2, Js.dirty_cat fun i hi => h i (by omega), (h n (by omega)).1]
    rfl
theorem Js.real_low (b : Nat) : Js.dirty (Js.real b) = false := by
  unfold Js.real
  split
  · decide
  · split
    · exact Js.dirty_quoted _
    · exact Js.dirty_low fun c hc => (Js.real_ascii b c hc).2
theorem Js.begins_low (c : UInt8) (h : Js.begins c = true) : c.toNat < 128 := by
  have h1 := Js.all (p := fun c => !Js.begins c || decide (c.toNat < 128)) (by decide +kernel) c
  rw [h] at h1
  exact of_decide_eq_true (by simpa using h1)
theorem Js.put_clean : ∀ (d : Nat) (t : Vt), Js.Ok d t → Js.dirty (Js.put t) = false
  | 0, _, h => h.elim
  | d + 1, .nil, h => h.elim
  | d + 1, .mk k x b s n it m ks, ⟨hf, hb, hi⟩ => by
    have hp : ∀ i, i < n → Js.dirty (Js.put (it i)) = false ∧ Js.low (Js.put (it i)) = true := fun i hin => by
      refine ⟨Js.put_clean d (it i) (hi i hin), ?_⟩
      obtain ⟨c, l, e, hc⟩ := Js.put_head (hi i hin)
      rw [e]
      exact decide_eq_true (Js.begins_low c hc)
    have hcm : ∀ i b, Js.low b = true → Js.dirty b = false → Js.dirty (Js.comma i ++ b) = false ∧ Js.low (Js.comma i ++ b) = true := fun i b h1 h2 => by
      unfold Js.comma
      split
      · exact ⟨h2, h1⟩
      · refine ⟨?_, rfl⟩
        show Js.dirty (44 :: b) = false
        rw [Js.dirty, Js.line_not (by decide), h2]
        rfl
    rw [Js.put]
    split
    · decide
    · split
      · split <;> decide
      · split
        · exact Js.dirty_low fun c hc => (Js.itoa_ascii x c hc).2
        · split
          · exact Js.real_low b
          · split
            · exact Js.dirty_quoted _
            · split
              · rw [Js.dirty, Js.line_not (by decide), Js.dirty_append rfl, Js.dirty_cat fun i hin => hcm i _ (hp i hin).2 (hp i hin).1]
                rfl
              · rw [Js.dirty, Js.line_not (by decide), Js.dirty_append rfl, Js.dirty_cat fun i hin => hcm i _ rfl ?_]
                · rfl
                · rw [Js.dirty_append rfl, Js.dirty_quoted, Js.dirty, Js.line_not (by decide), (hp i hin).1]
                  rfl
end Go.Proofs.YtiajclmhimkpnaaDoor
/-
  THE WALK of stoleref1.Norm: what the document's own answer gives is 'Pl.normL' too (texts of up to 2^45 bytes).
-/
namespace Go.Proofs.YtiajclmhimkpnaaDoor
open Go.RowKit

/-- 'string(out)' of bytes that the call owns -/
theorem Rn.conv {wr : World} {B : Nat} {v : Value} {acc : List UInt8} (h : wr.ownsRow B 5 1 v acc.length (Lib.byteCells acc)) :
    (convert 35 9 v).run Tryd.prog wr = .ok (.string ⟨acc.toArray⟩) wr := by
  rcases h.2 with ⟨rfl, h0⟩ | ⟨g, cap, cur, rfl, _⟩
  · have e : acc = [] := List.eq_nil_of_length_eq_zero h0
    subst e
    rw [run_convert_bytes_string wr 35 9 5 none 0 0 Tryd.underlying35 Tryd.underlying5 Tryd.underlying9]
    simp [Conv.bytesToString]
    rfl
  · refine run_convert_bytes_back (P := Tryd.prog) wr 35 9 5 ⟨g, 0, none⟩ cap acc Tryd.underlying35 Tryd.underlying5 Tryd.underlying9 (fun j hj => ?_)
    have e : (⟨g, 0, none⟩ : Addr).add j = ⟨g, j, none⟩ := by rw [Addr.add_lit, Nat.zero_add]
    rw [e, h.cellAt j (by omega)]
    simp [Lib.byteCells, hj]
theorem Rn.below {w wr w' : World} {v : Value} {n : Nat} {xs : List Value} (hb : Below w.heap.size w wr) (hown : wr.ownsRow w.heap.size 5 1 v n xs) (hg : wr.grownBy w' v.ownBlock) : Below w.heap.size w w' :=
  hb.grown hg hb.size (fun k hk => (hown.lt k hk).1)
theorem Rn.c1 (W : World) : ∀ (j : Nat) (u : Value), [Value.int .u8 239, Value.int .u8 191, Value.int .u8 189][j]? = some u → (W.alloc (.cells #[.int .u8 239, .int .u8 191, .int .u8 189] 5)).cell? ((⟨W.heap.size, 0, none⟩ : Addr).add j) = some u := by
  intro j u h
  rw [Addr.add_lit, Nat.zero_add]
  have := World.cell?_alloc_mark W #[.int .u8 239, .int .u8 191, .int .u8 189] 5 (0, 0) j
  rw [this]
  simpa using h
theorem Rn.c2 : ∀ u ∈ [Value.int .u8 239, Value.int .u8 191, Value.int .u8 189], u.oneCell' = true := by
  intro u hu
  simp at hu
  rcases hu with rfl | rfl | rfl <;> rfl
theorem Rn.bad_rel {w wr w1 : World} {o v' : Value} {acc : List UInt8} {X : Obj} (hb : Below w.heap.size w wr) (hown : wr.ownsRow w.heap.size 5 1 o acc.length (Lib.byteCells acc))
    (hown' : w1.ownsRow w.heap.size 5 1 v' (acc.length + 3) (Lib.byteCells acc ++ [.int .u8 239, .int .u8 191, .int .u8 189])) (hg : (wr.alloc X).grownBy w1 o.ownBlock) :
    w1.ownsRow w.heap.size 5 1 v' (acc ++ Pl.fffd).length (Lib.byteCells (acc ++ Pl.fffd)) ∧ Below w.heap.size w w1 := by
  refine ⟨?_, (hb.alloc hb.size X).grown hg (by have := hb.size; simp; omega) (fun k hk => (hown.lt k hk).1)⟩
  rw [Lib.byteCells_append, List.length_append]
  exact hown'
theorem Rn.good_rel {w wr w1 : World} {o v' : Value} {acc l : List UInt8} {part : ByteArray} {n : Nat} (hsz : part.size = n) (hb : Below w.heap.size w wr) (hown : wr.ownsRow w.heap.size 5 1 o acc.length (Lib.byteCells acc)) (hp : part.data.toList = l)
    (hown' : w1.ownsRow w.heap.size 5 1 v' (acc.length + n) (Lib.byteCells acc ++ Lib.strCells part)) (hg : wr.grownBy w1 o.ownBlock) :
    w1.ownsRow w.heap.size 5 1 v' (acc ++ l).length (Lib.byteCells (acc ++ l)) ∧ Below w.heap.size w w1 := by
  refine ⟨?_, Rn.below hb hown hg⟩
  rw [Lib.byteCells_append, List.length_append, ← hp, Wk.len_data, hsz]
  exact hown'

set_option maxHeartbeats 2000000 in
theorem Sz.norm (s : ByteArray) (w : World) (hs : s.size ≤ 35184372088832) :
    Calls Tryd.prog 9 #[.string s] w fun e w' => e = .returned (.string ⟨(Pl.normL s.data.toList).toArray⟩) ∧ Below w.heap.size w w' := by
  obtain ⟨i0, hi, hz0, hz1, hz2⟩ := info_parts Wk.info5
  go_enter Tryd.func9, Tryd.ntmps9
  go_wp2
  go_loopw [3, 4] (fun o i wr => ∃ (k : Nat) (acc : List UInt8), k ≤ s.size ∧ i = .int .i64 k ∧ wr.ownsRow w.heap.size 5 1 o acc.length (Lib.byteCells acc) ∧ Below w.heap.size w wr ∧ Hid (acc ++ Pl.normL (s.data.toList.drop k) = Pl.normL s.data.toList) ∧ acc.length ≤ 3 * k) (fun _ i _ => s.size - (intOf i).toNat)
  case atStart => exact ⟨0, [], Nat.zero_le _, rfl, World.ownsRow_nil _ _ _ _, Below.refl _ _, rfl, Nat.le_refl _⟩
  case round =>
    obtain ⟨k, acc, hk, rfl, hown, hb, hn, hal⟩ := hrel
    have hsz := hb.size
    by_cases hlt : k < s.size
    · have hle := Pl.sgn_le (s.data.toList.drop k)
      rw [List.length_drop, Wk.len_data] at hle
      have h0 := (Sz.nb_at s k 0 (by omega)).symm
      have hboth := Sz.both (s.data.toList.drop k)
      have c := Sz.size s k hlt (by omega) wr
      have hsame := Sz.same (s.data.toList.drop k)
      have hnb := Pl.normL_bad _ (Wk.drop_ne s k hlt)
      have hns := Pl.normL_sign (s.data.toList.drop k)
      rw [List.drop_drop] at hns hnb
      have e0 : s[k].toNat = Pl.nb (s.data.toList.drop k) 0 := h0
      generalize Pl.nb (s.data.toList.drop k) 0 = v at *
      generalize Pl.siz (s.data.toList.drop k) = z at *
      generalize Pl.sgn (s.data.toList.drop k) = m at *
      have HNB : Hid (m = 0 → Pl.normL (s.data.toList.drop k) = Pl.fffd ++ Pl.normL (s.data.toList.drop (k + 1))) := hnb
      have HNS : Hid (m ≠ 0 → Pl.normL (s.data.toList.drop k) = (s.data.toList.drop k).take m ++ Pl.normL (s.data.toList.drop (k + m))) := hns
      have HB : Hid ((z = 0 ∨ v = 0) ↔ m = 0) := hboth
      have HS : Hid (m ≠ 0 → z = m) := hsame
      clear hnb hns hboth hsame h0
      by_cases m0 : m = 0
      · have hzv := HB.out.2 m0
        by_cases z0 : z = 0
        · have hz : ((z : Int) == 0) = true := beq_iff_eq.2 (by omega)
          go_wp2_with (first
            | (go_at_call 17; refine c.mono ?_; rintro e w' ⟨rfl, rfl⟩)
            | (at_builtin; refine wpList_append_own _ rfl _ _ 35 rfl w.heap.size 5 i0 (.int .u8 0) 1 1 Tryd.underlying35 hi hz0 hz1 hz2 rfl (by decide) _ _ _ rfl (hown.alloc _) ⟨_, 0, none⟩ 3 3 [.int .u8 239, .int .u8 191, .int .u8 189] rfl rfl (Rn.c1 _) Rn.c2 (by unfold maxLen; omega) (by omega) (by simp; omega) ?_))
          intro v' w1 hown' hgrow _
          have R := Rn.bad_rel hb hown hown' hgrow
          have HR : Hid ((acc ++ Pl.fffd) ++ Pl.normL (s.data.toList.drop (k + 1)) = Pl.normL s.data.toList) := by
            show _ = _
            rw [← hn.out, HNB.out m0, List.append_assoc]
          clear hown' hgrow hown c hb hn HNB HNS HB HS
          go_wp2
          go_roundw
          case rel => exact ⟨k + 1, acc ++ Pl.fffd, by omega, by go_num, R.1, R.2, HR, by simp [Pl.fffd]; omega⟩
          case measure => simp [intOf]; omega
        · have hz : ((z : Int) == 0) = false := beq_eq_false_iff_ne.2 (by omega)
          have hv : ((v : Int) == 0) = true := beq_iff_eq.2 (by omega)
          go_wp2_with (first
            | (go_at_call 17; refine c.mono ?_; rintro e w' ⟨rfl, rfl⟩)
            | (at_builtin; refine wpList_append_own _ rfl _ _ 35 rfl w.heap.size 5 i0 (.int .u8 0) 1 1 Tryd.underlying35 hi hz0 hz1 hz2 rfl (by decide) _ _ _ rfl (hown.alloc _) ⟨_, 0, none⟩ 3 3 [.int .u8 239, .int .u8 191, .int .u8 189] rfl rfl (Rn.c1 _) Rn.c2 (by unfold maxLen; omega) (by omega) (by simp; omega) ?_))
          intro v' w1 hown' hgrow _
          have R := Rn.bad_rel hb hown hown' hgrow
          have HR : Hid ((acc ++ Pl.fffd) ++ Pl.normL (s.data.toList.drop (k + 1)) = Pl.normL s.data.toList) := by
            show _ = _
            rw [← hn.out, HNB.out m0, List.append_assoc]
          clear hown' hgrow hown c hb hn HNB HNS HB HS
          go_wp2
          go_roundw
          case rel => exact ⟨k + 1, acc ++ Pl.fffd, by omega, by go_num, R.1, R.2, HR, by simp [Pl.fffd]; omega⟩
          case measure => simp [intOf]; omega
      · have hzm := HS.out m0
        have hv0 : ¬ v = 0 := fun e => m0 (HB.out.1 (.inr e))
        subst hzm
        have hz : ((z : Int) == 0) = false := beq_eq_false_iff_ne.2 (by omega)
        have hv : ((v : Int) == 0) = false := beq_eq_false_iff_ne.2 (by omega)
        have hcut : ∀ u : World, (Instr.slice 9 (.string s) (some (.int .i64 (k : Int))) (some (.int .i64 ((k : Int) + (z : Int)))) none).run Tryd.prog u = .ok (.string (s.extract k (k + z))) u := fun u => by
          have h := Wk.run_cut u s (k : Int) ((k : Int) + (z : Int)) (by omega) (by omega) (by omega)
          rwa [show ((k : Int) + (z : Int)).toNat = k + z by omega, Int.toNat_natCast] at h
        have hps := Wk.part_size s k z (by omega)
        have hpd := Wk.part_data s k z
        generalize s.extract k (k + z) = part at hcut hps hpd
        have HPD : Hid (part.data.toList = (s.data.toList.drop k).take z) := hpd
        clear hpd
        go_wp2_with (first
          | (go_at_call 17; refine c.mono ?_; rintro e w' ⟨rfl, rfl⟩)
          | (at_builtin; refine Lib.wpList_append_own_string _ rfl _ _ 35 9 rfl w.heap.size 5 i0 Tryd.underlying35 Tryd.underlying9 hi hz0 hz1 hz2 _ _ _ rfl hown part rfl (by unfold maxLen; omega) (by omega) (by omega) ?_))
        intro v' w1 hown' hgrow _
        have R := Rn.good_rel hps hb hown HPD.out hown' hgrow
        have HR : Hid ((acc ++ (s.data.toList.drop k).take z) ++ Pl.normL (s.data.toList.drop (k + z)) = Pl.normL s.data.toList) := by
          show _ = _
          rw [← hn.out, HNS.out m0, List.append_assoc]
        clear hown' hgrow hown c hb hn HNB HNS HB HS HPD hcut
        go_wp2
        go_roundw
        case rel => exact ⟨k + z, acc ++ (s.data.toList.drop k).take z, by omega, by go_num, R.1, R.2, HR, by simp; omega⟩
        case measure => simp [intOf]; omega
    · have hke : k = s.size := by omega
      have hconv := Rn.conv hown
      have HE : Hid (acc = Pl.normL s.data.toList) := by
        have := hn.out
        rw [hke, List.drop_of_length_le (by rw [Wk.len_data]; exact Nat.le_refl _), Pl.normL_nil, List.append_nil] at this
        exact this
      clear hown hn hke
      go_wp2
      go_ret
      exact ⟨Wk.ret_str HE.out, hb⟩
end Go.Proofs.YtiajclmhimkpnaaDoor
/-
  A ROW OF BYTES OF ONE'S OWN THAT GROWS by some bytes at a time.
-/
namespace Go.Proofs.YtiajclmhimkpnaaDoor
open Go.RowKit
theorem Rb.info : (Tryd.prog.info? 5).map (fun i => (i.zero, i.size, i.bytes)) = some (some (.int .u8 0), 1, 1) := by kernel_rfl
theorem Rb.new (W : World) (arr : Array Value) (t : TypeId) (g : Nat) (h : g = W.heap.size) : ∀ (j : Nat) (u : Value), arr.toList[j]? = some u → (W.alloc (.cells arr t)).cell? ((⟨g, 0, none⟩ : Addr).add j) = some u := by
  subst h
  intro j u hj
  rw [Addr.add_lit, Nat.zero_add]
  unfold World.cell?
  rw [show (W.alloc (.cells arr t)).heap[W.heap.size]? = some _ from heap_alloc_new W _]
  simpa using hj
theorem Rb.wp {w : World} {o : Oper} {a : Act} {K : Act → World → Prop} {Z : Exit → Act → World → Prop} (s x : Operand)
    (ho : o.op = .call { callee := .builtin .append, args := #[s, x], argTypes := #[35, 35] })
    {base : Nat} {acc : List UInt8} (v : Value) (hs : a.eval s = v) (hown : w.ownsRow base 5 1 v acc.length (Lib.byteCells acc)) (g1 : Nat) (news : List UInt8) (k : Nat) (hk : news.length = k)
    (hx : a.eval x = .slice (some ⟨g1, 0, none⟩) k k) (hg1 : ∀ (j : Nat) (u : Value), (Lib.byteCells news)[j]? = some u → w.cell? ((⟨g1, 0, none⟩ : Addr).add j) = some u)
    (hn : acc.length + k ≤ 140737488355328) (hbase : base ≤ w.heap.size)
    (h : ∀ v' w', w'.ownsRow base 5 1 v' (acc ++ news).length (Lib.byteCells (acc ++ news)) → w.grownBy w' v.ownBlock → K (a.put o.dst v') w') : o.wp Tryd.prog a w K Z := by
  obtain ⟨iV, hiV, hzV, hsV, hbV⟩ := info_parts Rb.info
  have hone : ∀ u ∈ Lib.byteCells news, u.oneCell' = true := by
    intro u hu
    simp only [Lib.byteCells, List.mem_map] at hu
    obtain ⟨b, _, rfl⟩ := hu
    rfl
  have hl : (Lib.byteCells news).length = k * 1 := by rw [Lib.byteCells_length, hk, Nat.mul_one]
  obtain ⟨v', w', hr, h2, h3, h4⟩ := run_append_own (P := Tryd.prog) w base 35 o.type 5 iV _ 1 1 Tryd.underlying35 hiV hzV hsV hbV rfl (by decide) v acc.length (Lib.byteCells acc) hown ⟨g1, 0, none⟩ k k (Lib.byteCells news) hl hg1 hone (by unfold maxLen; omega) (by omega) hbase
  unfold Oper.wp execOp
  simp only [ho, resolve, invoke, builtin, Sem.run_bind, Sem.run_pure, Result.andThen_ok, List.map_toArray, List.map_cons, List.map_nil, hs, hx, hr]
  refine h v' w' ?_ h3
  rw [List.length_append, hk]
  have e : Lib.byteCells (acc ++ news) = Lib.byteCells acc ++ Lib.byteCells news := by simp [Lib.byteCells]
  rw [e]
  exact h2
theorem Rb.push {w : World} {ops : Array Oper} {rest : List Oper} {o : Oper} {a : Act} {Z : Exit → Act → World → Prop} (hgd : o.guard = none) (s x : Operand)
    (ho : o.op = .call { callee := .builtin .append, args := #[s, x], argTypes := #[35, 35] })
    {base : Nat} {acc : List UInt8} (v : Value) (hs : a.eval s = v) (hown : w.ownsRow base 5 1 v acc.length (Lib.byteCells acc)) (g1 : Nat) (news : List UInt8) (k : Nat) (hk : news.length = k)
    (hx : a.eval x = .slice (some ⟨g1, 0, none⟩) k k) (hg1 : ∀ (j : Nat) (u : Value), (Lib.byteCells news)[j]? = some u → w.cell? ((⟨g1, 0, none⟩ : Addr).add j) = some u)
    (hn : acc.length + k ≤ 140737488355328) (hbase : base ≤ w.heap.size)
    (h : ∀ v' w', w'.ownsRow base 5 1 v' (acc ++ news).length (Lib.byteCells (acc ++ news)) → w.grownBy w' v.ownBlock → wpList Tryd.prog ops Z rest (a.put o.dst v') w') : wpList Tryd.prog ops Z (o :: rest) a w :=
  wpList_plain hgd fun _ hK => Rb.wp s x ho v hs hown g1 news k hk hx hg1 hn hbase fun v' w' h2 h3 => hK _ _ (h v' w' h2 h3)
theorem Rb.step {w : World} {ops : Array Oper} {o : Oper} {a : Act} {K : Act → World → Prop} {E : Prop} {Z : Exit → Act → World → Prop} (hgd : o.guard = none) (s x : Operand)
    (ho : o.op = .call { callee := .builtin .append, args := #[s, x], argTypes := #[35, 35] })
    {base : Nat} {acc : List UInt8} (v : Value) (hs : a.eval s = v) (hown : w.ownsRow base 5 1 v acc.length (Lib.byteCells acc)) (g1 : Nat) (news : List UInt8) (k : Nat) (hk : news.length = k)
    (hx : a.eval x = .slice (some ⟨g1, 0, none⟩) k k) (hg1 : ∀ (j : Nat) (u : Value), (Lib.byteCells news)[j]? = some u → w.cell? ((⟨g1, 0, none⟩ : Addr).add j) = some u)
    (hn : acc.length + k ≤ 140737488355328) (hbase : base ≤ w.heap.size)
    (h : ∀ v' w', w'.ownsRow base 5 1 v' (acc ++ news).length (Lib.byteCells (acc ++ news)) → w.grownBy w' v.ownBlock → K (a.put o.dst v') w') : if Region.wanted o (yielded ops a.tmps) = true then Oper.wp Tryd.prog o a w K Z else E := by
  rw [if_pos (by simp [Region.wanted, hgd])]
  exact Rb.wp s x ho v hs hown g1 news k hk hx hg1 hn hbase h
theorem Rb.form {w : World} {base n : Nat} {v : Value} {xs : List Value} (h : w.ownsRow base 5 1 v n xs) : ∃ a d, v = .slice a n d := by
  rcases h.2 with ⟨rfl, rfl⟩ | ⟨g, cap, cur, rfl, _⟩
  · exact ⟨_, _, rfl⟩
  · exact ⟨_, _, rfl⟩
set_option maxRecDepth 100000 in
theorem Qr.in (c : UInt8) (S : ByteArray) (w : World) (hS : S.size ≤ 4611686018427387904) :
    Calls Tryd.prog 15 #[.int .u8 c.toNat, .string S] w fun e w' => e = .returned (.bool (S.data.toList.contains c)) ∧ w' = w := by
  obtain ⟨b, hb⟩ : ∃ b, S.data.toList.contains c = b := ⟨_, rfl⟩
  rw [hb]
  have HB := Lib.hid hb
  clear hb
  go_enter Tryd.func15, Tryd.ntmps15
  go_wp2_with fail
  go_loopw [5] (fun ix wr => ∃ i : Nat, i ≤ S.size ∧ ix = .int .i64 (i : Int) ∧ Hid ((S.data.toList.take i).contains c = false) ∧ wr = w) (fun ix _ => S.size - (intOf ix).toNat)
  case atStart => exact ⟨0, Nat.zero_le _, rfl, rfl, rfl⟩
  case round =>
    obtain ⟨i, hi, rfl, HC, hw⟩ := hrel
    have hw := hw.symm
    subst hw
    by_cases hlt : i < S.size
    · have d1 : decide ((i : Int) < (S.size : Int)) = true := decide_eq_true (by omega)
      have hl : i < S.data.toList.length := by rw [Wk.len_data]; exact hlt
      have hg : S.data.toList[i] = S[i] := by simp [ByteArray.getElem_eq_getElem_data]
      have HT : Hid ((S.data.toList.take (i + 1)).contains c = ((S.data.toList.take i).contains c || decide (c = S[i]))) := by
        unfold Hid
        rw [List.take_succ_eq_append_getElem hl, hg]
        simp [List.contains_eq_mem]
      by_cases hc : S[i] = c
      · have t1 : ((S[i].toNat : Int) == (c.toNat : Int)) = true := by rw [hc]; simp
        have HR : Hid (S.data.toList.contains c = true) := by
          unfold Hid
          rw [List.contains_iff_mem, ← hc, ← hg]
          exact List.getElem_mem hl
        have hbt : b = true := HB.out.symm.trans HR.out
        subst hbt
        clear hc hg
        go_wp2
        go_ret
        exact ⟨rfl, rfl⟩
      · have t1 : ((S[i].toNat : Int) == (c.toNat : Int)) = false := beq_eq_false_iff_ne.2 fun q => hc (UInt8.toNat_inj.1 (by omega))
        have HN : Hid ((S.data.toList.take (i + 1)).contains c = false) := by
          unfold Hid
          rw [HT.out, HC.out]
          simp
          exact fun q => hc q.symm
        clear hc hg
        go_wp2
        go_roundw
        case rel => exact ⟨i + 1, by omega, by go_num, HN, by first | rfl | trivial⟩
        case measure => simp [intOf]; omega
    · have e : i = S.size := by omega
      subst e
      have d1 : decide ((S.size : Int) < (S.size : Int)) = false := decide_eq_false (by omega)
      have HR : Hid (S.data.toList.contains c = false) := by
        have := HC.out
        rw [List.take_of_length_le (by rw [Wk.len_data]; exact Nat.le_refl _)] at this
        exact this
      have hbf : b = false := HB.out.symm.trans HR.out
      subst hbf
      go_wp2
      go_ret
      exact ⟨rfl, rfl⟩
end Go.Proofs.YtiajclmhimkpnaaDoor

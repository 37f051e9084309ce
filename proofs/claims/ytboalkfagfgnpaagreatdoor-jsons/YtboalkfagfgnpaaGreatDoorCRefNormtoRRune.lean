/-
  THE WALK of stoleref1.Norm: what the document's own answer gives is 'Pl.normL' too (texts of up to 2^45 bytes).
-/
import Derived.Test.YtboalkfagfgnpaaGreatDoorCSize
import Derived.Test.YtboalkfagfgnpaaGreatDoorCNormtoJRi
import Derived.Test.YtboalkfagfgnpaaGreatDoorCJPatoRDig
import Derived.Laws.BitsLemmas
namespace Go.Proofs.YtboalkfagfgnpaaGreatDoor
open Go.RowKit

/-- 'string(out)' of bytes that the call owns -/
theorem Rn.conv {wr : World} {B : Nat} {v : Value} {acc : List UInt8} (h : wr.ownsRow B 5 1 v acc.length (Lib.byteCells acc)) :
    (convert 44 9 v).run Tryz.prog wr = .ok (.string ⟨acc.toArray⟩) wr := by
  rcases h.2 with ⟨rfl, h0⟩ | ⟨g, cap, cur, rfl, _⟩
  · have e : acc = [] := List.eq_nil_of_length_eq_zero h0
    subst e
    rw [run_convert_bytes_string wr 44 9 5 none 0 0 Tryz.underlying44 Tryz.underlying5 Tryz.underlying9]
    simp [Conv.bytesToString]
    rfl
  · refine run_convert_bytes_back (P := Tryz.prog) wr 44 9 5 ⟨g, 0, none⟩ cap acc Tryz.underlying44 Tryz.underlying5 Tryz.underlying9 (fun j hj => ?_)
    have e : (⟨g, 0, none⟩ : Addr).add j = ⟨g, j, none⟩ := by rw [Addr.add_lit, Nat.zero_add]
    rw [e, h.cellAt j (by omega)]
    simp [Lib.byteCells, hj]
theorem Rn.below {w wr w' : World} {v : Value} {n : Nat} {xs : List Value} (hb : Below w.heap.size w wr) (hown : wr.ownsRow w.heap.size 5 1 v n xs) (hg : wr.grownBy w' v.ownBlock) : Below w.heap.size w w' :=
  hb.grown hg hb.size (fun k hk => (hown.lt k hk).1)
theorem Rn.c1 (W : World) : ∀ (j : Nat) (u : Value), [Value.int .u8 239, Value.int .u8 191, Value.int .u8 189][j]? = some u → (W.alloc (.cells #[.int .u8 239, .int .u8 191, .int .u8 189] 5)).cell? ((⟨W.heap.size, 0, none⟩ : Addr).add j) = some u := by
  intro j u h
  rw [Addr.add_lit, Nat.zero_add]
  have := World.cell?_alloc_mark W #[.int .u8 239, .int .u8 191, .int .u8 189] 5 (0, 0) j
  rw [this]
  simpa using h
theorem Rn.c2 : ∀ u ∈ [Value.int .u8 239, Value.int .u8 191, Value.int .u8 189], u.oneCell' = true := by
  intro u hu
  simp at hu
  rcases hu with rfl | rfl | rfl <;> rfl
theorem Rn.bad_rel {w wr w1 : World} {o v' : Value} {acc : List UInt8} {X : Obj} (hb : Below w.heap.size w wr) (hown : wr.ownsRow w.heap.size 5 1 o acc.length (Lib.byteCells acc))
    (hown' : w1.ownsRow w.heap.size 5 1 v' (acc.length + 3) (Lib.byteCells acc ++ [.int .u8 239, .int .u8 191, .int .u8 189])) (hg : (wr.alloc X).grownBy w1 o.ownBlock) :
    w1.ownsRow w.heap.size 5 1 v' (acc ++ Pl.fffd).length (Lib.byteCells (acc ++ Pl.fffd)) ∧ Below w.heap.size w w1 := by
  refine ⟨?_, (hb.alloc hb.size X).grown hg (by have := hb.size; simp; omega) (fun k hk => (hown.lt k hk).1)⟩
  rw [Lib.byteCells_append, List.length_append]
  exact hown'
theorem Rn.good_rel {w wr w1 : World} {o v' : Value} {acc l : List UInt8} {part : ByteArray} {n : Nat} (hsz : part.size = n) (hb : Below w.heap.size w wr) (hown : wr.ownsRow w.heap.size 5 1 o acc.length (Lib.byteCells acc)) (hp : part.data.toList = l)
    (hown' : w1.ownsRow w.heap.size 5 1 v' (acc.length + n) (Lib.byteCells acc ++ Lib.strCells part)) (hg : wr.grownBy w1 o.ownBlock) :
    w1.ownsRow w.heap.size 5 1 v' (acc ++ l).length (Lib.byteCells (acc ++ l)) ∧ Below w.heap.size w w1 := by
  refine ⟨?_, Rn.below hb hown hg⟩
  rw [Lib.byteCells_append, List.length_append, ← hp, Wk.len_data, hsz]
  exact hown'

set_option maxHeartbeats 2000000 in
theorem Sz.norm (s : ByteArray) (w : World) (hs : s.size ≤ 35184372088832) :
    Calls Tryz.prog 30 #[.string s] w fun e w' => e = .returned (.string ⟨(Pl.normL s.data.toList).toArray⟩) ∧ Below w.heap.size w w' := by
  obtain ⟨i0, hi, hz0, hz1, hz2⟩ := info_parts Wk.info5
  go_enter Tryz.func30, Tryz.ntmps30
  go_wp2
  go_loopw [3, 4] (fun o i wr => ∃ (k : Nat) (acc : List UInt8), k ≤ s.size ∧ i = .int .i64 k ∧ wr.ownsRow w.heap.size 5 1 o acc.length (Lib.byteCells acc) ∧ Below w.heap.size w wr ∧ Hid (acc ++ Pl.normL (s.data.toList.drop k) = Pl.normL s.data.toList) ∧ acc.length ≤ 3 * k) (fun _ i _ => s.size - (intOf i).toNat)
  case atStart => exact ⟨0, [], Nat.zero_le _, rfl, World.ownsRow_nil _ _ _ _, Below.refl _ _, rfl, Nat.le_refl _⟩
  case round =>
    obtain ⟨k, acc, hk, rfl, hown, hb, hn, hal⟩ := hrel
    have hsz := hb.size
    by_cases hlt : k < s.size
    · have hle := Pl.sgn_le (s.data.toList.drop k)
      rw [List.length_drop, Wk.len_data] at hle
      have h0 := (Sz.nb_at s k 0 (by omega)).symm
      have hboth := Sz.both (s.data.toList.drop k)
      have c := Sz.size s k hlt (by omega) wr
      have hsame := Sz.same (s.data.toList.drop k)
      have hnb := Pl.normL_bad _ (Wk.drop_ne s k hlt)
      have hns := Pl.normL_sign (s.data.toList.drop k)
      rw [List.drop_drop] at hns hnb
      have e0 : s[k].toNat = Pl.nb (s.data.toList.drop k) 0 := h0
      generalize Pl.nb (s.data.toList.drop k) 0 = v at *
      generalize Pl.siz (s.data.toList.drop k) = z at *
      generalize Pl.sgn (s.data.toList.drop k) = m at *
      have HNB : Hid (m = 0 → Pl.normL (s.data.toList.drop k) = Pl.fffd ++ Pl.normL (s.data.toList.drop (k + 1))) := hnb
      have HNS : Hid (m ≠ 0 → Pl.normL (s.data.toList.drop k) = (s.data.toList.drop k).take m ++ Pl.normL (s.data.toList.drop (k + m))) := hns
      have HB : Hid ((z = 0 ∨ v = 0) ↔ m = 0) := hboth
      have HS : Hid (m ≠ 0 → z = m) := hsame
      clear hnb hns hboth hsame h0
      by_cases m0 : m = 0
      · have hzv := HB.out.2 m0
        by_cases z0 : z = 0
        · have hz : ((z : Int) == 0) = true := beq_iff_eq.2 (by omega)
          go_wp2_with (first
            | (go_at_call 55; refine c.mono ?_; rintro e w' ⟨rfl, rfl⟩)
            | (at_builtin; refine wpList_append_own _ rfl _ _ 44 rfl w.heap.size 5 i0 (.int .u8 0) 1 1 Tryz.underlying44 hi hz0 hz1 hz2 rfl (by decide) _ _ _ rfl (hown.alloc _) ⟨_, 0, none⟩ 3 3 [.int .u8 239, .int .u8 191, .int .u8 189] rfl rfl (Rn.c1 _) Rn.c2 (by unfold maxLen; omega) (by omega) (by simp; omega) ?_))
          intro v' w1 hown' hgrow _
          have R := Rn.bad_rel hb hown hown' hgrow
          have HR : Hid ((acc ++ Pl.fffd) ++ Pl.normL (s.data.toList.drop (k + 1)) = Pl.normL s.data.toList) := by
            show _ = _
            rw [← hn.out, HNB.out m0, List.append_assoc]
          clear hown' hgrow hown c hb hn HNB HNS HB HS
          go_wp2
          go_roundw
          case rel => exact ⟨k + 1, acc ++ Pl.fffd, by omega, by go_num, R.1, R.2, HR, by simp [Pl.fffd]; omega⟩
          case measure => simp [intOf]; omega
        · have hz : ((z : Int) == 0) = false := beq_eq_false_iff_ne.2 (by omega)
          have hv : ((v : Int) == 0) = true := beq_iff_eq.2 (by omega)
          go_wp2_with (first
            | (go_at_call 55; refine c.mono ?_; rintro e w' ⟨rfl, rfl⟩)
            | (at_builtin; refine wpList_append_own _ rfl _ _ 44 rfl w.heap.size 5 i0 (.int .u8 0) 1 1 Tryz.underlying44 hi hz0 hz1 hz2 rfl (by decide) _ _ _ rfl (hown.alloc _) ⟨_, 0, none⟩ 3 3 [.int .u8 239, .int .u8 191, .int .u8 189] rfl rfl (Rn.c1 _) Rn.c2 (by unfold maxLen; omega) (by omega) (by simp; omega) ?_))
          intro v' w1 hown' hgrow _
          have R := Rn.bad_rel hb hown hown' hgrow
          have HR : Hid ((acc ++ Pl.fffd) ++ Pl.normL (s.data.toList.drop (k + 1)) = Pl.normL s.data.toList) := by
            show _ = _
            rw [← hn.out, HNB.out m0, List.append_assoc]
          clear hown' hgrow hown c hb hn HNB HNS HB HS
          go_wp2
          go_roundw
          case rel => exact ⟨k + 1, acc ++ Pl.fffd, by omega, by go_num, R.1, R.2, HR, by simp [Pl.fffd]; omega⟩
          case measure => simp [intOf]; omega
      · have hzm := HS.out m0
        have hv0 : ¬ v = 0 := fun e => m0 (HB.out.1 (.inr e))
        subst hzm
        have hz : ((z : Int) == 0) = false := beq_eq_false_iff_ne.2 (by omega)
        have hv : ((v : Int) == 0) = false := beq_eq_false_iff_ne.2 (by omega)
        have hcut : ∀ u : World, (Instr.slice 9 (.string s) (some (.int .i64 (k : Int))) (some (.int .i64 ((k : Int) + (z : Int)))) none).run Tryz.prog u = .ok (.string (s.extract k (k + z))) u := fun u => by
          have h := Wk.run_cut u s (k : Int) ((k : Int) + (z : Int)) (by omega) (by omega) (by omega)
          rwa [show ((k : Int) + (z : Int)).toNat = k + z by omega, Int.toNat_natCast] at h
        have hps := Wk.part_size s k z (by omega)
        have hpd := Wk.part_data s k z
        generalize s.extract k (k + z) = part at hcut hps hpd
        have HPD : Hid (part.data.toList = (s.data.toList.drop k).take z) := hpd
        clear hpd
        go_wp2_with (first
          | (go_at_call 55; refine c.mono ?_; rintro e w' ⟨rfl, rfl⟩)
          | (at_builtin; refine Lib.wpList_append_own_string _ rfl _ _ 44 9 rfl w.heap.size 5 i0 Tryz.underlying44 Tryz.underlying9 hi hz0 hz1 hz2 _ _ _ rfl hown part rfl (by unfold maxLen; omega) (by omega) (by omega) ?_))
        intro v' w1 hown' hgrow _
        have R := Rn.good_rel hps hb hown HPD.out hown' hgrow
        have HR : Hid ((acc ++ (s.data.toList.drop k).take z) ++ Pl.normL (s.data.toList.drop (k + z)) = Pl.normL s.data.toList) := by
          show _ = _
          rw [← hn.out, HNS.out m0, List.append_assoc]
        clear hown' hgrow hown c hb hn HNB HNS HB HS HPD hcut
        go_wp2
        go_roundw
        case rel => exact ⟨k + z, acc ++ (s.data.toList.drop k).take z, by omega, by go_num, R.1, R.2, HR, by simp; omega⟩
        case measure => simp [intOf]; omega
    · have hke : k = s.size := by omega
      have hconv := Rn.conv hown
      have HE : Hid (acc = Pl.normL s.data.toList) := by
        have := hn.out
        rw [hke, List.drop_of_length_le (by rw [Wk.len_data]; exact Nat.le_refl _), Pl.normL_nil, List.append_nil] at this
        exact this
      clear hown hn hke
      go_wp2
      go_ret
      exact ⟨Wk.ret_str HE.out, hb⟩
end Go.Proofs.YtboalkfagfgnpaaGreatDoor
/-
  THE WALK of stoleref1.Rune: it returns a new row of bytes, the sign of the number ('Pl.runeL'), and turns nothing that was there.
-/
namespace Go.Proofs.YtboalkfagfgnpaaGreatDoor
open Go.RowKit

theorem Bt.and6 (n : Int) : bits .and .i64 n 63 = n % 64 := by
  have hm : (BitVec.ofInt 64 63).toNat = 2 ^ 6 - 1 := by decide
  have key : (BitVec.ofInt 64 n &&& BitVec.ofInt 64 63).toNat = (n % ((2 ^ 64 : Nat) : Int)).toNat % 2 ^ 6 := by
    rw [BitVec.toNat_and, BitVec.toNat_ofInt, hm, Nat.and_two_pow_sub_one_eq_mod]
  show IntKind.i64.wrap ((BitVec.ofInt 64 n &&& BitVec.ofInt 64 63).toNat : Nat) = n % 64
  rw [key, IntKind.wrap_i64]
  omega
theorem Bt.wraps62 (n : Int) (h₀ : 0 ≤ n) (h₁ : n < 2 ^ 62) : IntKind.i64.wrap n = n := by rw [IntKind.wrap_i64]; omega
theorem Bt.or (i : Nat) (c y : Int) (hc0 : 0 ≤ c) (hc : c % 2 ^ i = 0) (hc1 : c < 256) (h0 : 0 ≤ y) (h1 : y < 2 ^ i) (h2 : y < 256) : bits .or .i64 c y = c + y := by
  exact bits_join .i64 62 (by decide) Bt.wraps62 i c y hc0 hc (by omega) h0 h1 (by omega)

/-- a number below 256 as a byte -/
theorem Bt.byte (z : Int) (h0 : 0 ≤ z) (h1 : z < 256) : ∃ a : UInt8, (a.toNat : Int) = z ∧ a = UInt8.ofNat z.toNat :=
  ⟨UInt8.ofNat z.toNat, by rw [UInt8.toNat_ofNat']; omega, rfl⟩
theorem Ru.fin (w : World) (cs : Array Value) (l : List UInt8) (n : Nat) (hn : l.length = n) (hs : n ≤ 4) (h : cs.toList = Lib.byteCells l) :
    (w.alloc (.cells cs 5)).ownsRow w.heap.size 5 1 (.slice (some ⟨w.heap.size, 0, none⟩) n n) l.length (Lib.byteCells l) := by
  have hc : cs.size = n := by rw [← Array.length_toList, h, Lib.byteCells_length, hn]
  have := World.ownsRow_lit (e := 5) (size := 1) w cs n (Nat.le_refl _) (by unfold maxLen; omega) (by omega)
  rw [hn, ← h]
  exact this

set_option maxRecDepth 100000 in
/-- what is no sign -/
theorem Ru.bad (x : Nat) (w : World) (h : x = 0 ∨ (55296 ≤ x ∧ x ≤ 57343) ∨ 1114111 < x) :
    Calls Tryz.prog 107 #[.int .i64 (x : Int)] w fun e w' => ∃ v, e = .returned v ∧ w'.ownsRow w.heap.size 5 1 v (Pl.runeL x).length (Lib.byteCells (Pl.runeL x)) ∧ Below w.heap.size w w' := by
  have hr : Pl.runeL x = Pl.fffd := by rw [Pl.runeL, if_pos h]
  rw [hr]
  by_cases h0 : x = 0
  · subst h0
    clear hr h
    go_enter Tryz.func107, Tryz.ntmps107
    go_wp2
    go_ret
    exact ⟨_, rfl, Ru.fin w _ Pl.fffd 3 rfl (by omega) rfl, (Below.refl _ _).alloc (Nat.le_refl _) _⟩
  · have d0 : decide ((x : Int) ≤ 0) = false := decide_eq_false (by omega)
    by_cases h1 : 55296 ≤ x ∧ x ≤ 57343
    · have d1 : decide ((55296 : Int) ≤ (x : Int)) = true := decide_eq_true (by omega)
      have d2 : decide ((x : Int) ≤ 57343) = true := decide_eq_true (by omega)
      clear hr h h1
      go_enter Tryz.func107, Tryz.ntmps107
      go_wp2
      go_ret
      exact ⟨_, rfl, Ru.fin w _ Pl.fffd 3 rfl (by omega) rfl, (Below.refl _ _).alloc (Nat.le_refl _) _⟩
    · have d3 : decide ((1114111 : Int) < (x : Int)) = true := decide_eq_true (by omega)
      have d1 : decide ((55296 : Int) ≤ (x : Int)) = true := decide_eq_true (by omega)
      have d2 : decide ((x : Int) ≤ 57343) = false := decide_eq_false (by omega)
      clear hr h h1
      go_enter Tryz.func107, Tryz.ntmps107
      go_wp2
      go_ret
      exact ⟨_, rfl, Ru.fin w _ Pl.fffd 3 rfl (by omega) rfl, (Below.refl _ _).alloc (Nat.le_refl _) _⟩

set_option maxRecDepth 100000 in
set_option maxHeartbeats 1000000 in
/-- a number that is a sign -/
theorem Ru.good (x : Nat) (w : World) (h : ¬ (x = 0 ∨ (55296 ≤ x ∧ x ≤ 57343) ∨ 1114111 < x)) :
    Calls Tryz.prog 107 #[.int .i64 (x : Int)] w fun e w' => ∃ v, e = .returned v ∧ w'.ownsRow w.heap.size 5 1 v (Pl.runeL x).length (Lib.byteCells (Pl.runeL x)) ∧ Below w.heap.size w w' := by
  have hr : Pl.runeL x = if x < 128 then [UInt8.ofNat x]
      else if x < 2048 then [UInt8.ofNat (192 + x / 64), UInt8.ofNat (128 + x % 64)]
      else if x < 65536 then [UInt8.ofNat (224 + x / 4096), UInt8.ofNat (128 + x / 64 % 64), UInt8.ofNat (128 + x % 64)]
      else [UInt8.ofNat (240 + x / 262144), UInt8.ofNat (128 + x / 4096 % 64), UInt8.ofNat (128 + x / 64 % 64), UInt8.ofNat (128 + x % 64)] := by rw [Pl.runeL, if_neg h]
  have h0 : ¬ x = 0 := fun e => h (.inl e)
  generalize Pl.runeL x = L at *
  have d0 : decide ((x : Int) ≤ 0) = false := decide_eq_false (by omega)
  have d3 : decide ((1114111 : Int) < (x : Int)) = false := decide_eq_false (by omega)
  have q0 : (0 : Int) ≤ (x : Int) := by omega
  have q1 : (x : Int) ≤ 1114111 := by omega
  by_cases c1 : x < 128
  · rw [if_pos c1] at hr
    have d1 : decide ((55296 : Int) ≤ (x : Int)) = false := decide_eq_false (by omega)
    have d4 : decide ((x : Int) < 128) = true := decide_eq_true (by omega)
    clear h
    obtain ⟨a, ha, ka⟩ := Bt.byte (x : Int) (by omega) (by omega)
    have HL : Hid (L = [a]) := by
      show _ = _
      rw [hr, ka, Int.toNat_natCast]
    have HA : Hid ((a.toNat : Int) = x) := ha
    clear hr ha ka
    rw [HL.out]
    go_enter Tryz.func107, Tryz.ntmps107
    go_wp2
    go_ret
    exact ⟨_, rfl, Ru.fin w #[.int .u8 (x : Int)] [a] 1 rfl (by omega) (by rw [← HA.out]; rfl), (Below.refl _ _).alloc (Nat.le_refl _) _⟩
  · rw [if_neg c1] at hr
    have d4 : decide ((x : Int) < 128) = false := decide_eq_false (by omega)
    by_cases c2 : x < 2048
    · rw [if_pos c2] at hr
      have d1 : decide ((55296 : Int) ≤ (x : Int)) = false := decide_eq_false (by omega)
      have d5 : decide ((x : Int) < 2048) = true := decide_eq_true (by omega)
      clear h
      obtain ⟨a, ha, ka⟩ := Bt.byte (192 + (x : Int) / 64) (by omega) (by omega)
      obtain ⟨b, hb, kb⟩ := Bt.byte (128 + (x : Int) % 64) (by omega) (by omega)
      have HL : Hid (L = [a, b]) := by
        show _ = _
        rw [hr, ka, kb]
        rw [show (192 + (x : Int) / 64).toNat = 192 + x / 64 by omega]
        rw [show (128 + (x : Int) % 64).toNat = 128 + x % 64 by omega]
      have ea : bits .or .i64 192 ((x : Int) / 64) % 256 = (a.toNat : Int) := by
        rw [Bt.or 5 192 _ (by omega) (by omega) (by omega) (by omega) (by omega) (by omega), ha]; omega
      have eb : bits .or .i64 128 (bits .and .i64 (x : Int) 63) % 256 = (b.toNat : Int) := by
        rw [Bt.and6, Bt.or 6 128 _ (by omega) (by omega) (by omega) (by omega) (by omega) (by omega), hb]; omega
      clear hr ha ka hb kb
      rw [HL.out]
      go_enter Tryz.func107, Tryz.ntmps107
      go_wp2
      go_ret
      exact ⟨_, rfl, Ru.fin w #[.int .u8 (a.toNat : Int), .int .u8 (b.toNat : Int)] _ 2 rfl (by omega) rfl, (Below.refl _ _).alloc (Nat.le_refl _) _⟩
    · rw [if_neg c2] at hr
      have d5 : decide ((x : Int) < 2048) = false := decide_eq_false (by omega)
      by_cases c3 : x < 65536
      · rw [if_pos c3] at hr
        have d6 : decide ((x : Int) < 65536) = true := decide_eq_true (by omega)
        by_cases c4 : x < 55296
        · have d1 : decide ((55296 : Int) ≤ (x : Int)) = false := decide_eq_false (by omega)
          clear h
          obtain ⟨a, ha, ka⟩ := Bt.byte (224 + (x : Int) / 4096) (by omega) (by omega)
          obtain ⟨b, hb, kb⟩ := Bt.byte (128 + (x : Int) / 64 % 64) (by omega) (by omega)
          obtain ⟨c, hc, kc⟩ := Bt.byte (128 + (x : Int) % 64) (by omega) (by omega)
          have HL : Hid (L = [a, b, c]) := by
            show _ = _
            rw [hr, ka, kb, kc]
            rw [show (224 + (x : Int) / 4096).toNat = 224 + x / 4096 by omega]
            rw [show (128 + (x : Int) / 64 % 64).toNat = 128 + x / 64 % 64 by omega]
            rw [show (128 + (x : Int) % 64).toNat = 128 + x % 64 by omega]
          have ea : bits .or .i64 224 ((x : Int) / 4096) % 256 = (a.toNat : Int) := by
            rw [Bt.or 4 224 _ (by omega) (by omega) (by omega) (by omega) (by omega) (by omega), ha]; omega
          have eb : bits .or .i64 128 (bits .and .i64 ((x : Int) / 64) 63) % 256 = (b.toNat : Int) := by
            rw [Bt.and6, Bt.or 6 128 _ (by omega) (by omega) (by omega) (by omega) (by omega) (by omega), hb]; omega
          have ec : bits .or .i64 128 (bits .and .i64 (x : Int) 63) % 256 = (c.toNat : Int) := by
            rw [Bt.and6, Bt.or 6 128 _ (by omega) (by omega) (by omega) (by omega) (by omega) (by omega), hc]; omega
          clear hr ha ka hb kb hc kc
          rw [HL.out]
          go_enter Tryz.func107, Tryz.ntmps107
          go_wp2
          go_ret
          exact ⟨_, rfl, Ru.fin w #[.int .u8 (a.toNat : Int), .int .u8 (b.toNat : Int), .int .u8 (c.toNat : Int)] _ 3 rfl (by omega) rfl, (Below.refl _ _).alloc (Nat.le_refl _) _⟩
        · have d1 : decide ((55296 : Int) ≤ (x : Int)) = true := decide_eq_true (by omega)
          have d2 : decide ((x : Int) ≤ 57343) = false := decide_eq_false (by omega)
          clear h
          obtain ⟨a, ha, ka⟩ := Bt.byte (224 + (x : Int) / 4096) (by omega) (by omega)
          obtain ⟨b, hb, kb⟩ := Bt.byte (128 + (x : Int) / 64 % 64) (by omega) (by omega)
          obtain ⟨c, hc, kc⟩ := Bt.byte (128 + (x : Int) % 64) (by omega) (by omega)
          have HL : Hid (L = [a, b, c]) := by
            show _ = _
            rw [hr, ka, kb, kc]
            rw [show (224 + (x : Int) / 4096).toNat = 224 + x / 4096 by omega]
            rw [show (128 + (x : Int) / 64 % 64).toNat = 128 + x / 64 % 64 by omega]
            rw [show (128 + (x : Int) % 64).toNat = 128 + x % 64 by omega]
          have ea : bits .or .i64 224 ((x : Int) / 4096) % 256 = (a.toNat : Int) := by
            rw [Bt.or 4 224 _ (by omega) (by omega) (by omega) (by omega) (by omega) (by omega), ha]; omega
          have eb : bits .or .i64 128 (bits .and .i64 ((x : Int) / 64) 63) % 256 = (b.toNat : Int) := by
            rw [Bt.and6, Bt.or 6 128 _ (by omega) (by omega) (by omega) (by omega) (by omega) (by omega), hb]; omega
          have ec : bits .or .i64 128 (bits .and .i64 (x : Int) 63) % 256 = (c.toNat : Int) := by
            rw [Bt.and6, Bt.or 6 128 _ (by omega) (by omega) (by omega) (by omega) (by omega) (by omega), hc]; omega
          clear hr ha ka hb kb hc kc
          rw [HL.out]
          go_enter Tryz.func107, Tryz.ntmps107
          go_wp2
          go_ret
          exact ⟨_, rfl, Ru.fin w #[.int .u8 (a.toNat : Int), .int .u8 (b.toNat : Int), .int .u8 (c.toNat : Int)] _ 3 rfl (by omega) rfl, (Below.refl _ _).alloc (Nat.le_refl _) _⟩
      · rw [if_neg c3] at hr
        have d6 : decide ((x : Int) < 65536) = false := decide_eq_false (by omega)
        have d1 : decide ((55296 : Int) ≤ (x : Int)) = true := decide_eq_true (by omega)
        have d2 : decide ((x : Int) ≤ 57343) = false := decide_eq_false (by omega)
        clear h
        obtain ⟨a, ha, ka⟩ := Bt.byte (240 + (x : Int) / 262144) (by omega) (by omega)
        obtain ⟨b, hb, kb⟩ := Bt.byte (128 + (x : Int) / 4096 % 64) (by omega) (by omega)
        obtain ⟨c, hc, kc⟩ := Bt.byte (128 + (x : Int) / 64 % 64) (by omega) (by omega)
        obtain ⟨d, hd, kd⟩ := Bt.byte (128 + (x : Int) % 64) (by omega) (by omega)
        have HL : Hid (L = [a, b, c, d]) := by
          show _ = _
          rw [hr, ka, kb, kc, kd]
          rw [show (240 + (x : Int) / 262144).toNat = 240 + x / 262144 by omega]
          rw [show (128 + (x : Int) / 4096 % 64).toNat = 128 + x / 4096 % 64 by omega]
          rw [show (128 + (x : Int) / 64 % 64).toNat = 128 + x / 64 % 64 by omega]
          rw [show (128 + (x : Int) % 64).toNat = 128 + x % 64 by omega]
        have ea : bits .or .i64 240 ((x : Int) / 262144) % 256 = (a.toNat : Int) := by
          rw [Bt.or 4 240 _ (by omega) (by omega) (by omega) (by omega) (by omega) (by omega), ha]; omega
        have eb : bits .or .i64 128 (bits .and .i64 ((x : Int) / 4096) 63) % 256 = (b.toNat : Int) := by
          rw [Bt.and6, Bt.or 6 128 _ (by omega) (by omega) (by omega) (by omega) (by omega) (by omega), hb]; omega
        have ec : bits .or .i64 128 (bits .and .i64 ((x : Int) / 64) 63) % 256 = (c.toNat : Int) := by
          rw [Bt.and6, Bt.or 6 128 _ (by omega) (by omega) (by omega) (by omega) (by omega) (by omega), hc]; omega
        have ed : bits .or .i64 128 (bits .and .i64 (x : Int) 63) % 256 = (d.toNat : Int) := by
          rw [Bt.and6, Bt.or 6 128 _ (by omega) (by omega) (by omega) (by omega) (by omega) (by omega), hd]; omega
        clear hr ha ka hb kb hc kc hd kd
        rw [HL.out]
        go_enter Tryz.func107, Tryz.ntmps107
        go_wp2
        go_ret
        exact ⟨_, rfl, Ru.fin w #[.int .u8 (a.toNat : Int), .int .u8 (b.toNat : Int), .int .u8 (c.toNat : Int), .int .u8 (d.toNat : Int)] _ 4 rfl (by omega) rfl, (Below.refl _ _).alloc (Nat.le_refl _) _⟩

theorem Ru.rune (x : Nat) (w : World) :
    Calls Tryz.prog 107 #[.int .i64 (x : Int)] w fun e w' => ∃ v, e = .returned v ∧ w'.ownsRow w.heap.size 5 1 v (Pl.runeL x).length (Lib.byteCells (Pl.runeL x)) ∧ Below w.heap.size w w' := by
  by_cases h : x = 0 ∨ (55296 ≤ x ∧ x ≤ 57343) ∨ 1114111 < x
  · exact Ru.bad x w h
  · exact Ru.good x w h
end Go.Proofs.YtboalkfagfgnpaaGreatDoor

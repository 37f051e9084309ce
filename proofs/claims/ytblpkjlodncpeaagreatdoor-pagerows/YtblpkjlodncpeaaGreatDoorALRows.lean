/-
  THE WALK of stolelaw8.PageRows.
-/
import Derived.Test.YtblpkjlodncpeaaGreatDoorALAwtoKBulk
namespace Go.Proofs.YtblpkjlodncpeaaGreatDoor
open Go.RowKit
theorem Lr.and3 (n : Int) : bits .and .i64 n 3 = n % 4 := by
  have hm : (BitVec.ofInt 64 3).toNat = 2 ^ 2 - 1 := by decide
  have key : (BitVec.ofInt 64 n &&& BitVec.ofInt 64 3).toNat = (n % ((2 ^ 64 : Nat) : Int)).toNat % 2 ^ 2 := by
    rw [BitVec.toNat_and, BitVec.toNat_ofInt, hm, Nat.and_two_pow_sub_one_eq_mod]
  show IntKind.i64.wrap ((BitVec.ofInt 64 n &&& BitVec.ofInt 64 3).toNat : Nat) = n % 4
  rw [key, IntKind.wrap_i64]
  omega
theorem Lr.bytes_snoc : ∀ (l : List Nat) (i k : Nat), Kr.bytes i (l ++ [k]) = Kr.bytes i l ++ Kr.piece k (i + l.length)
  | [], i, k => by show Kr.piece k i ++ [] = [] ++ Kr.piece k (i + 0); simp
  | x :: l, i, k => by
    show Kr.piece x i ++ Kr.bytes (i + 1) (l ++ [k]) = Kr.piece x i ++ Kr.bytes (i + 1) l ++ Kr.piece k (i + (l.length + 1))
    rw [Lr.bytes_snoc l (i + 1) k, List.append_assoc, show i + 1 + l.length = i + (l.length + 1) by omega]
theorem Lr.run_snoc : ∀ (l : List Nat) (s : Kr.Law) (i k : Nat), s.run i (l ++ [k]) = (s.run i l).step k (i + l.length)
  | [], s, i, k => rfl
  | x :: l, s, i, k => by
    show (s.step x i).run (i + 1) (l ++ [k]) = ((s.step x i).run (i + 1) l).step k (i + (l.length + 1))
    rw [Lr.run_snoc l (s.step x i) (i + 1) k, show i + 1 + l.length = i + (l.length + 1) by omega]
/-- what holds of the law's own reckoning -/
structure Lr.Fine (s : Kr.Law) (i : Nat) : Prop where
  pos : 0 < s.deep.length
  len : s.deep.length ≤ i + 1
  many : s.many ≤ i
  num : ∀ q ∈ s.deep, q ≤ s.many
  want : s.want.length ≤ 50 * i
theorem Lr.Fine.start : Lr.Fine Kr.Law.start 0 := ⟨by decide, by decide, by decide, by decide, by decide⟩
theorem Lr.Fine.last {s : Kr.Law} {i : Nat} (h : Lr.Fine s i) : s.deep.getLastD 0 ≤ s.many := by
  have hne : s.deep ≠ [] := fun e => by have := h.pos; rw [e] at this; exact absurd this (by decide)
  rw [List.getLastD_eq_getLast?, List.getLast?_eq_some_getLast hne, Option.getD_some]
  exact h.num _ (List.getLast_mem hne)
theorem Lr.Fine.up {s : Kr.Law} {i : Nat} (h : Lr.Fine s i) (hi : i < 30) : s.up.length ≤ 2 := by
  have h1 := h.last
  have h2 := h.many
  exact Kb.dec 1 _ (by omega)
theorem Lr.dg_len (i : Nat) : (Kr.dg i).length ≤ 2 := by unfold Kr.dg; split <;> simp
theorem Lr.Fine.step {s : Kr.Law} {i : Nat} (h : Lr.Fine s i) (hi : i < 30) (k : Nat) : Lr.Fine (s.step k i) (i + 1) := by
  have hu := h.up hi
  have hd := Lr.dg_len i
  have hw := h.want
  have hm := h.many
  have hl := h.len
  have hp := h.pos
  unfold Kr.Law.step
  split
  · refine ⟨by simp, by simp; omega, by show s.many + 1 ≤ _; omega, fun q hq => ?_, ?_⟩
    · rcases List.mem_append.1 hq with r | r
      · have := h.num q r; show q ≤ s.many + 1; omega
      · rw [List.mem_singleton.1 r]; exact Nat.le_refl _
    · show (s.want ++ _).length ≤ _
      rw [List.length_append, List.length_append]
      simp only [List.length_cons, List.length_nil]
      omega
  · refine ⟨hp, by show s.deep.length ≤ _; omega, by show s.many + 1 ≤ _; omega, fun q hq => by have := h.num q hq; show q ≤ s.many + 1; omega, ?_⟩
    show (s.want ++ _).length ≤ _
    rw [List.length_append, List.length_append]
    simp only [List.length_cons, List.length_nil]
    omega
  · refine ⟨hp, by show s.deep.length ≤ _; omega, by show s.many + 1 ≤ _; omega, fun q hq => by have := h.num q hq; show q ≤ s.many + 1; omega, ?_⟩
    show (s.want ++ _).length ≤ _
    rw [List.length_append, List.length_append, List.length_append, List.length_append]
    simp only [List.length_cons, List.length_nil]
    omega
  · by_cases c : 1 < s.deep.length
    · rw [if_pos c]
      refine ⟨by show 0 < (s.deep.take _).length; rw [List.length_take]; omega, by show (s.deep.take _).length ≤ _; rw [List.length_take]; omega, by show s.many ≤ _; omega, fun q hq => h.num q (List.mem_of_mem_take hq), by show s.want.length ≤ _; omega⟩
    · rw [if_neg c]
      exact ⟨hp, by show s.deep.length ≤ _; omega, by show s.many ≤ _; omega, h.num, by show s.want.length ≤ _; omega⟩
theorem Lr.Fine.run : ∀ (l : List Nat) {s : Kr.Law} {i : Nat}, Lr.Fine s i → i + l.length ≤ 30 → Lr.Fine (s.run i l) (i + l.length)
  | [], _, _, h, _ => h
  | k :: l, s, i, h, hl => by
    have hl : i + (l.length + 1) ≤ 30 := hl
    have := Lr.Fine.run l (h.step (by omega) k) (by omega)
    rw [show i + 1 + l.length = i + (l.length + 1) by omega] at this
    exact this
/-- texts of bytes -/
def Lr.T (l : List UInt8) : ByteArray := ⟨l.toArray⟩
theorem Lr.T_append (a b : List UInt8) : Lr.T a ++ Lr.T b = Lr.T (a ++ b) := by
  apply ByteArray.ext
  rw [ByteArray.data_append]
  apply Array.ext'
  simp [Lr.T]
theorem Lr.T_size (l : List UInt8) : (Lr.T l).size = l.length := by show l.toArray.size = _; simp
set_option maxRecDepth 100000 in
set_option maxHeartbeats 8000000 in
theorem Law.pageRows (a0 : Option Addr) (n0 c0 : Nat) (m : Int) (w : World) (hm : w.cell? ⟨1, 0, none⟩ = some (.int .i64 m)) (htab : Pq.Tab w) (hc0 : n0 ≤ c0 ∧ c0 ≤ 9223372036854775807) (hN : ∀ i, i < n0 → ∃ b o x, a0 = some ⟨b, o, none⟩ ∧ b < w.heap.size ∧ w.cell? ⟨b, o + i, none⟩ = some (.int .i64 x)) :
    Calls Tryz.prog 6 #[.slice a0 n0 c0] w fun e w' => e = .returned (.bool true) ∧ Below w.heap.size w w' := by
  have aw := A8.awake m w hm htab
  have HTB := Lib.hid htab
  have HN := Lib.hid hN
  have HMX := Lib.hid hm
  obtain ⟨hc1, hc2⟩ := hc0
  clear hN hm htab
  go_enter Tryz.func6, Tryz.ntmps6
  go_upto_region 4 with (go_at_call 17; refine aw.mono ?_; rintro e w1 ⟨rfl, q1⟩; clear aw)
  have hd0 : (w1.alloc (.cells #[.int .i64 0] 3)).ownsRow w.heap.size 3 1 (.slice (some ⟨w1.heap.size, 0, none⟩) 1 1) 1 (Um.ints [0]) := World.ownsRow_lit (base := w.heap.size) (e := 3) (size := 1) w1 #[.int .i64 0] 1 q1.size (by decide) rfl
  have HD0 := Lib.hid hd0
  have HQ1 : Hid (Below w.heap.size w (w1.alloc (.cells #[.int .i64 0] 3))) := q1.alloc q1.size _
  clear q1 hd0
  go_wp2_with fail
  generalize w1.alloc (.cells #[.int .i64 0] 3) = W1 at *
  generalize w1.heap.size = g1 at *
  go_loopw [3, 4, 5, 6, 7] (fun pv tv dv mv ix wr => ∃ l : List Nat, l.length ≤ n0 ∧ l.length ≤ 30 ∧ pv = .string (Lr.T (Kr.bytes 0 l)) ∧ tv = .string (Lr.T (Kr.Law.start.run 0 l).want) ∧ mv = .int .i64 ((Kr.Law.start.run 0 l).many : Int) ∧ ix = .int .i64 (l.length : Int) ∧ Hid (∀ k ∈ l, k < 4) ∧ Hid (wr.ownsRow w.heap.size 3 1 dv (Kr.Law.start.run 0 l).deep.length (Um.ints (Kr.Law.start.run 0 l).deep)) ∧ Hid (Below w.heap.size w wr)) (fun _ _ _ _ ix _ => 30 - (intOf ix).toNat)
  case atStart => exact ⟨[], Nat.zero_le _, Nat.zero_le _, rfl, rfl, rfl, rfl, (fun k hk => (nomatch hk)), HD0.out, HQ1.out⟩
  case round =>
    clear HD0 HQ1
    obtain ⟨l, hl0, hl30, rfl, rfl, rfl, rfl, HK, HD, HB⟩ := hrel
    have hF := Lr.Fine.run l Lr.Fine.start (by omega)
    rw [Nat.zero_add] at hF
    have hbz := (Kr.bytes_fine l 0 (by omega) HK.out).2
    have HRUN : Hid (∀ k, Kr.Law.start.run 0 (l ++ [k]) = (Kr.Law.start.run 0 l).step k l.length) := fun k => by have := Lr.run_snoc l Kr.Law.start 0 k; rw [Nat.zero_add] at this; exact this
    have HBY : Hid (∀ k, Kr.bytes 0 (l ++ [k]) = Kr.bytes 0 l ++ Kr.piece k l.length) := fun k => by have := Lr.bytes_snoc l 0 k; rw [Nat.zero_add] at this; exact this
    have HROW := Lib.hid (Kr.rows l hl30 HK.out)
    have hfp := hF.pos
    have hfl := hF.len
    have hfm := hF.many
    have hfw := hF.want
    have HF := Lib.hid hF
    clear hF
    by_cases hlt : l.length < n0 ∧ l.length < 30
    · obtain ⟨hlt, hl3⟩ := hlt
      have d1 : decide ((l.length : Int) < (n0 : Int)) = true := decide_eq_true (by omega)
      have d2 : decide ((l.length : Int) < 30) = true := decide_eq_true (by omega)
      have hup := HF.out.up hl3
      have hlast := HF.out.last
      have hdg := Lr.dg_len l.length
      clear HROW
      have HBYs := HBY.out
      generalize hs : Kr.Law.start.run 0 l = s at *
      obtain ⟨dg, dd, hdv, hdd, hdm⟩ := Um.form1 HD.out hfp
      subst hdv
      have hw1 : IntKind.i64.wrap ((s.deep.length : Int) - 1) = ((s.deep.length - 1 : Nat) : Int) := by rw [IntKind.wrap_i64]; omega
      have ctop : wr.cell? ⟨dg, s.deep.length - 1, none⟩ = some (.int .i64 (s.deep.getLastD 0 : Int)) := by
        rw [HD.out.cellAt (s.deep.length - 1) (by omega)]
        refine Um.ints_get ?_
        rw [List.getLastD_eq_getLast?, List.getLast?_eq_getElem?, List.getElem?_eq_getElem (by omega)]
        rfl
      have i1 : s.deep.length - 1 < dd := by omega
      have i2 : s.deep.length - 1 < s.deep.length := by omega
      have decU := fun u => Dm.decimal (s.deep.getLastD 0) (by omega) u
      have decI := fun u => Dm.decimal l.length (by omega) u
      rw [Kr.dec l.length (by omega)] at decI
      have hUP : Lib.decDigits (s.deep.getLastD 0) = s.up := rfl
      rw [hUP] at decU
      generalize s.deep.getLastD 0 = top at *
      have HWS := HB.out.size
      go_upto_region 9 with (go_at_call 18; refine (decU _).mono ?_; rintro e w2 ⟨rfl, b2⟩; clear decU)
      have HD2 : Hid (w2.ownsRow w.heap.size 3 1 (.slice (some ⟨dg, 0, none⟩) s.deep.length dd) s.deep.length (Um.ints s.deep)) := Rm.own_on HD.out fun k hk => b2.block k (HD.out.lt k hk).2
      have HB2 : Hid (Below w.heap.size w w2) := HB.out.trans (b2.mono HWS)
      have hWS2 := HB2.out.size
      clear b2 HD HB ctop
      obtain ⟨nb, no, x, rfl, hnb, hnx⟩ := HN.out l.length hlt
      have cx : w2.cell? ⟨nb, no + l.length, none⟩ = some (.int .i64 x) := by rw [HB2.out.cell hnb]; exact hnx
      have hcd : l.length < c0 := by omega
      have hand := Lr.and3 x
      obtain ⟨kk, hkk, hk4⟩ : ∃ kk : Nat, x % 4 = (kk : Int) ∧ kk < 4 := ⟨(x % 4).toNat, by omega, by omega⟩
      rw [hkk] at hand
      have HK2 : Hid (∀ k ∈ l ++ [kk], k < 4) := fun k hk => by
        rcases List.mem_append.1 hk with q | q
        · exact HK.out k q
        · rw [List.mem_singleton.1 q]; exact hk4
      have hll : (l ++ [kk]).length = l.length + 1 := by simp
      have HBK : Hid (Kr.bytes 0 (l ++ [kk]) = Kr.bytes 0 l ++ Kr.piece kk l.length) := HBYs kk
      have HRK : Hid (Kr.Law.start.run 0 (l ++ [kk]) = s.step kk l.length) := HRUN.out kk
      clear hnx hkk HK HBYs HRUN HBY hs
      have zp := Lr.T_size (Kr.bytes 0 l)
      have zw := Lr.T_size s.want
      have zu : (⟨s.up.toArray⟩ : ByteArray).size = s.up.length := Lr.T_size s.up
      have zi : (⟨(Kr.dg l.length).toArray⟩ : ByteArray).size = (Kr.dg l.length).length := Lr.T_size _
      by_cases hk : kk = 0
      · subst hk
        have k0 : ((((0 : Nat)) : Int) == 0) = true := rfl
        obtain ⟨Q0, sp0⟩ : ∃ z, Lr.T (Kr.bytes 0 l) ++ (⟨#[60, 117, 32, 107, 61, 39]⟩ : ByteArray) = z := ⟨_, rfl⟩
        have HQ0 : Hid (Q0 = Lr.T ((Kr.bytes 0 l) ++ [60, 117, 32, 107, 61, 39])) := by unfold Hid; rw [← sp0]; exact Lr.T_append _ _
        have spy0 : (⟨#[60, 117, 32, 107, 61, 39]⟩ : ByteArray).size = 6 := rfl
        have spz0 : Q0.size = (Lr.T (Kr.bytes 0 l)).size + 6 := by rw [← sp0, ByteArray.size_append]; rfl
        obtain ⟨Q1, sp1⟩ : ∃ z, Q0 ++ (⟨(Kr.dg l.length).toArray⟩ : ByteArray) = z := ⟨_, rfl⟩
        have HQ1 : Hid (Q1 = Lr.T (((Kr.bytes 0 l) ++ [60, 117, 32, 107, 61, 39]) ++ Kr.dg l.length)) := by unfold Hid; rw [← sp1, HQ0.out]; exact Lr.T_append _ _
        have spz1 : Q1.size = (Q0).size + (Kr.dg l.length).length := by rw [← sp1, ByteArray.size_append, zi]
        obtain ⟨Q2, sp2⟩ : ∃ z, Q1 ++ (⟨#[39, 62]⟩ : ByteArray) = z := ⟨_, rfl⟩
        have HQ2 : Hid (Q2 = Lr.T ((((Kr.bytes 0 l) ++ [60, 117, 32, 107, 61, 39]) ++ Kr.dg l.length) ++ [39, 62])) := by unfold Hid; rw [← sp2, HQ1.out]; exact Lr.T_append _ _
        have spy2 : (⟨#[39, 62]⟩ : ByteArray).size = 2 := rfl
        have spz2 : Q2.size = (Q1).size + 2 := by rw [← sp2, ByteArray.size_append]; rfl
        have HPE : Hid (Q2 = Lr.T (Kr.bytes 0 (l ++ [0]))) := by
          unfold Hid
          rw [HBK.out, HQ2.out]
          congr 1
          simp only [List.append_assoc]
          rfl
        obtain ⟨V0, sw0⟩ : ∃ z, Lr.T s.want ++ (⟨s.up.toArray⟩ : ByteArray) = z := ⟨_, rfl⟩
        have HV0 : Hid (V0 = Lr.T ((s.want) ++ s.up)) := by unfold Hid; rw [← sw0]; exact Lr.T_append _ _
        have swz0 : V0.size = (Lr.T s.want).size + s.up.length := by rw [← sw0, ByteArray.size_append, zu]
        obtain ⟨V1, sw1⟩ : ∃ z, V0 ++ (⟨#[32, 101, 32, 117, 32, 107, 10]⟩ : ByteArray) = z := ⟨_, rfl⟩
        have HV1 : Hid (V1 = Lr.T (((s.want) ++ s.up) ++ [32, 101, 32, 117, 32, 107, 10])) := by unfold Hid; rw [← sw1, HV0.out]; exact Lr.T_append _ _
        have swy1 : (⟨#[32, 101, 32, 117, 32, 107, 10]⟩ : ByteArray).size = 7 := rfl
        have swz1 : V1.size = (V0).size + 7 := by rw [← sw1, ByteArray.size_append]; rfl
        have HWE : Hid (V1 = Lr.T (Kr.Law.start.run 0 (l ++ [0])).want) := by
          unfold Hid
          rw [HRK.out, HV1.out]
          congr 1
          simp only [List.append_assoc]
          rfl
        have hwm : IntKind.i64.wrap ((s.many : Int) + 1) = (s.many : Int) + 1 := by rw [IntKind.wrap_i64]; omega
        have HME : Hid ((Kr.Law.start.run 0 (l ++ [0])).many = s.many + 1) := by unfold Hid; rw [HRK.out]; rfl
        have HDL : Hid ((Kr.Law.start.run 0 (l ++ [0])).deep = s.deep ++ [s.many + 1]) := by unfold Hid; rw [HRK.out]; rfl
        clear HBK HRK
        have HNI : Hid (s.deep.length + 1 ≤ maxLen ∧ (s.deep.length + 1) * 8 ≤ 140737488355328) := ⟨by unfold maxLen; omega, by omega⟩
        go_wp2_with (first | (go_at_call 18; refine (decI _).mono ?_; rintro e w3 ⟨rfl, b3⟩; have HD3 : Hid (w3.ownsRow w.heap.size 3 1 (.slice (some ⟨dg, 0, none⟩) s.deep.length dd) s.deep.length (Um.ints s.deep)) := Rm.own_on HD2.out (fun k hk => b3.block k (HD2.out.lt k hk).2); have HB3 : Hid (Below w.heap.size w w3) := HB2.out.trans (b3.mono hWS2); have hWS3 := HB3.out.size; clear b3 HD2 HB2) | (at_builtin; refine Ro.push rfl _ _ 52 3 1 8 _ rfl Tryz.underlying52 Um.infoI rfl (by decide) _ rfl (HD3.out.alloc _) w3.heap.size [.int .i64 ((s.many : Int) + 1)] rfl (Um.one_int _ _ _ rfl) rfl (by simp [Value.oneCell']) HNI.out.1 HNI.out.2 (by simp; omega) ?_; intro v7 w7 R7 hg7 hf7; have HDE : Hid (w7.ownsRow w.heap.size 3 1 v7 (Kr.Law.start.run 0 (l ++ [0])).deep.length (Um.ints (Kr.Law.start.run 0 (l ++ [0])).deep)) := (by unfold Hid; rw [HDL.out, List.length_append, Um.ints_append]; exact R7); have HBE : Hid (Below w.heap.size w w7) := (HB3.out.alloc hWS3 _).grown hg7 (by simp; omega) (fun k hk => (HD3.out.lt k hk).1); clear R7 hg7 hf7))
        go_roundw
        case rel => exact ⟨l ++ [0], by omega, by omega, congrArg Value.string HPE.out, congrArg Value.string HWE.out, by rw [HME.out]; rfl, by rw [hll]; go_num, HK2, HDE, HBE⟩
        case measure => simp [intOf]; omega
      by_cases hk : kk = 1
      · subst hk
        have k0 : ((((1 : Nat)) : Int) == 0) = false := rfl
        have k1 : ((((1 : Nat)) : Int) == 1) = true := rfl
        obtain ⟨Q0, sp0⟩ : ∃ z, Lr.T (Kr.bytes 0 l) ++ (⟨#[60, 98, 114, 62]⟩ : ByteArray) = z := ⟨_, rfl⟩
        have HQ0 : Hid (Q0 = Lr.T ((Kr.bytes 0 l) ++ [60, 98, 114, 62])) := by unfold Hid; rw [← sp0]; exact Lr.T_append _ _
        have spy0 : (⟨#[60, 98, 114, 62]⟩ : ByteArray).size = 4 := rfl
        have spz0 : Q0.size = (Lr.T (Kr.bytes 0 l)).size + 4 := by rw [← sp0, ByteArray.size_append]; rfl
        obtain ⟨Q1, sp1⟩ : ∃ z, Q0 ++ (⟨(Kr.dg l.length).toArray⟩ : ByteArray) = z := ⟨_, rfl⟩
        have HQ1 : Hid (Q1 = Lr.T (((Kr.bytes 0 l) ++ [60, 98, 114, 62]) ++ Kr.dg l.length)) := by unfold Hid; rw [← sp1, HQ0.out]; exact Lr.T_append _ _
        have spz1 : Q1.size = (Q0).size + (Kr.dg l.length).length := by rw [← sp1, ByteArray.size_append, zi]
        have HPE : Hid (Q1 = Lr.T (Kr.bytes 0 (l ++ [1]))) := by
          unfold Hid
          rw [HBK.out, HQ1.out]
          congr 1
          simp only [List.append_assoc]
          rfl
        obtain ⟨V0, sw0⟩ : ∃ z, Lr.T s.want ++ (⟨s.up.toArray⟩ : ByteArray) = z := ⟨_, rfl⟩
        have HV0 : Hid (V0 = Lr.T ((s.want) ++ s.up)) := by unfold Hid; rw [← sw0]; exact Lr.T_append _ _
        have swz0 : V0.size = (Lr.T s.want).size + s.up.length := by rw [← sw0, ByteArray.size_append, zu]
        obtain ⟨V1, sw1⟩ : ∃ z, V0 ++ (⟨#[32, 101, 32, 98, 114, 10]⟩ : ByteArray) = z := ⟨_, rfl⟩
        have HV1 : Hid (V1 = Lr.T (((s.want) ++ s.up) ++ [32, 101, 32, 98, 114, 10])) := by unfold Hid; rw [← sw1, HV0.out]; exact Lr.T_append _ _
        have swy1 : (⟨#[32, 101, 32, 98, 114, 10]⟩ : ByteArray).size = 6 := rfl
        have swz1 : V1.size = (V0).size + 6 := by rw [← sw1, ByteArray.size_append]; rfl
        have HWE : Hid (V1 = Lr.T (Kr.Law.start.run 0 (l ++ [1])).want) := by
          unfold Hid
          rw [HRK.out, HV1.out]
          congr 1
          simp only [List.append_assoc]
          rfl
        have hwm : IntKind.i64.wrap ((s.many : Int) + 1) = (s.many : Int) + 1 := by rw [IntKind.wrap_i64]; omega
        have HME : Hid ((Kr.Law.start.run 0 (l ++ [1])).many = s.many + 1) := by unfold Hid; rw [HRK.out]; rfl
        have HDL : Hid ((Kr.Law.start.run 0 (l ++ [1])).deep = s.deep) := by unfold Hid; rw [HRK.out]; rfl
        clear HBK HRK
        go_wp2_with (go_at_call 18; refine (decI _).mono ?_; rintro e w3 ⟨rfl, b3⟩; have HD3 : Hid (w3.ownsRow w.heap.size 3 1 (.slice (some ⟨dg, 0, none⟩) s.deep.length dd) s.deep.length (Um.ints s.deep)) := Rm.own_on HD2.out (fun k hk => b3.block k (HD2.out.lt k hk).2); have HB3 : Hid (Below w.heap.size w w3) := HB2.out.trans (b3.mono hWS2); have hWS3 := HB3.out.size; clear b3 HD2 HB2)
        go_roundw
        case rel => exact ⟨l ++ [1], by omega, by omega, congrArg Value.string HPE.out, congrArg Value.string HWE.out, by rw [HME.out]; rfl, by rw [hll]; go_num, HK2, (by unfold Hid; rw [HDL.out]; exact HD3.out), HB3⟩
        case measure => simp [intOf]; omega
      by_cases hk : kk = 2
      · subst hk
        have k0 : ((((2 : Nat)) : Int) == 0) = false := rfl
        have k1 : ((((2 : Nat)) : Int) == 1) = false := rfl
        have k2 : ((((2 : Nat)) : Int) == 2) = true := rfl
        obtain ⟨Q0, sp0⟩ : ∃ z, Lr.T (Kr.bytes 0 l) ++ (⟨#[60, 33, 99]⟩ : ByteArray) = z := ⟨_, rfl⟩
        have HQ0 : Hid (Q0 = Lr.T ((Kr.bytes 0 l) ++ [60, 33, 99])) := by unfold Hid; rw [← sp0]; exact Lr.T_append _ _
        have spy0 : (⟨#[60, 33, 99]⟩ : ByteArray).size = 3 := rfl
        have spz0 : Q0.size = (Lr.T (Kr.bytes 0 l)).size + 3 := by rw [← sp0, ByteArray.size_append]; rfl
        obtain ⟨Q1, sp1⟩ : ∃ z, Q0 ++ (⟨(Kr.dg l.length).toArray⟩ : ByteArray) = z := ⟨_, rfl⟩
        have HQ1 : Hid (Q1 = Lr.T (((Kr.bytes 0 l) ++ [60, 33, 99]) ++ Kr.dg l.length)) := by unfold Hid; rw [← sp1, HQ0.out]; exact Lr.T_append _ _
        have spz1 : Q1.size = (Q0).size + (Kr.dg l.length).length := by rw [← sp1, ByteArray.size_append, zi]
        obtain ⟨Q2, sp2⟩ : ∃ z, Q1 ++ (⟨#[62]⟩ : ByteArray) = z := ⟨_, rfl⟩
        have HQ2 : Hid (Q2 = Lr.T ((((Kr.bytes 0 l) ++ [60, 33, 99]) ++ Kr.dg l.length) ++ [62])) := by unfold Hid; rw [← sp2, HQ1.out]; exact Lr.T_append _ _
        have spy2 : (⟨#[62]⟩ : ByteArray).size = 1 := rfl
        have spz2 : Q2.size = (Q1).size + 1 := by rw [← sp2, ByteArray.size_append]; rfl
        have HPE : Hid (Q2 = Lr.T (Kr.bytes 0 (l ++ [2]))) := by
          unfold Hid
          rw [HBK.out, HQ2.out]
          congr 1
          simp only [List.append_assoc]
          rfl
        obtain ⟨V0, sw0⟩ : ∃ z, Lr.T s.want ++ (⟨s.up.toArray⟩ : ByteArray) = z := ⟨_, rfl⟩
        have HV0 : Hid (V0 = Lr.T ((s.want) ++ s.up)) := by unfold Hid; rw [← sw0]; exact Lr.T_append _ _
        have swz0 : V0.size = (Lr.T s.want).size + s.up.length := by rw [← sw0, ByteArray.size_append, zu]
        obtain ⟨V1, sw1⟩ : ∃ z, V0 ++ (⟨#[32, 99, 32, 99]⟩ : ByteArray) = z := ⟨_, rfl⟩
        have HV1 : Hid (V1 = Lr.T (((s.want) ++ s.up) ++ [32, 99, 32, 99])) := by unfold Hid; rw [← sw1, HV0.out]; exact Lr.T_append _ _
        have swy1 : (⟨#[32, 99, 32, 99]⟩ : ByteArray).size = 4 := rfl
        have swz1 : V1.size = (V0).size + 4 := by rw [← sw1, ByteArray.size_append]; rfl
        obtain ⟨V2, sw2⟩ : ∃ z, V1 ++ (⟨(Kr.dg l.length).toArray⟩ : ByteArray) = z := ⟨_, rfl⟩
        have HV2 : Hid (V2 = Lr.T ((((s.want) ++ s.up) ++ [32, 99, 32, 99]) ++ Kr.dg l.length)) := by unfold Hid; rw [← sw2, HV1.out]; exact Lr.T_append _ _
        have swz2 : V2.size = (V1).size + (Kr.dg l.length).length := by rw [← sw2, ByteArray.size_append, zi]
        obtain ⟨V3, sw3⟩ : ∃ z, V2 ++ (⟨#[10]⟩ : ByteArray) = z := ⟨_, rfl⟩
        have HV3 : Hid (V3 = Lr.T (((((s.want) ++ s.up) ++ [32, 99, 32, 99]) ++ Kr.dg l.length) ++ [10])) := by unfold Hid; rw [← sw3, HV2.out]; exact Lr.T_append _ _
        have swy3 : (⟨#[10]⟩ : ByteArray).size = 1 := rfl
        have swz3 : V3.size = (V2).size + 1 := by rw [← sw3, ByteArray.size_append]; rfl
        have HWE : Hid (V3 = Lr.T (Kr.Law.start.run 0 (l ++ [2])).want) := by
          unfold Hid
          rw [HRK.out, HV3.out]
          congr 1
          simp only [List.append_assoc]
          rfl
        have hwm : IntKind.i64.wrap ((s.many : Int) + 1) = (s.many : Int) + 1 := by rw [IntKind.wrap_i64]; omega
        have HME : Hid ((Kr.Law.start.run 0 (l ++ [2])).many = s.many + 1) := by unfold Hid; rw [HRK.out]; rfl
        have HDL : Hid ((Kr.Law.start.run 0 (l ++ [2])).deep = s.deep) := by unfold Hid; rw [HRK.out]; rfl
        clear HBK HRK
        go_wp2_with (first | (go_at_call 18; refine (decI _).mono ?_; rintro e w3 ⟨rfl, b3⟩; have HD3 : Hid (w3.ownsRow w.heap.size 3 1 (.slice (some ⟨dg, 0, none⟩) s.deep.length dd) s.deep.length (Um.ints s.deep)) := Rm.own_on HD2.out (fun k hk => b3.block k (HD2.out.lt k hk).2); have HB3 : Hid (Below w.heap.size w w3) := HB2.out.trans (b3.mono hWS2); have hWS3 := HB3.out.size; clear b3 HD2 HB2) | (go_at_call 18; refine (decI _).mono ?_; rintro e w4 ⟨rfl, b4⟩; have HD4 : Hid (w4.ownsRow w.heap.size 3 1 (.slice (some ⟨dg, 0, none⟩) s.deep.length dd) s.deep.length (Um.ints s.deep)) := Rm.own_on HD3.out (fun k hk => b4.block k (HD3.out.lt k hk).2); have HB4 : Hid (Below w.heap.size w w4) := HB3.out.trans (b4.mono hWS3); clear b4 HD3 HB3))
        go_roundw
        case rel => exact ⟨l ++ [2], by omega, by omega, congrArg Value.string HPE.out, congrArg Value.string HWE.out, by rw [HME.out]; rfl, by rw [hll]; go_num, HK2, (by unfold Hid; rw [HDL.out]; exact HD4.out), HB4⟩
        case measure => simp [intOf]; omega
      have hk3 : kk = 3 := by omega
      subst hk3
      have k0 : (((3 : Nat) : Int) == 0) = false := rfl
      have k1 : (((3 : Nat) : Int) == 1) = false := rfl
      have k2 : (((3 : Nat) : Int) == 2) = false := rfl
      obtain ⟨Q0, sp0⟩ : ∃ z, Lr.T (Kr.bytes 0 l) ++ (⟨#[60, 47, 117, 62]⟩ : ByteArray) = z := ⟨_, rfl⟩
      have HQ0 : Hid (Q0 = Lr.T ((Kr.bytes 0 l) ++ [60, 47, 117, 62])) := by unfold Hid; rw [← sp0]; exact Lr.T_append _ _
      have spy0 : (⟨#[60, 47, 117, 62]⟩ : ByteArray).size = 4 := rfl
      have spz0 : Q0.size = (Lr.T (Kr.bytes 0 l)).size + 4 := by rw [← sp0, ByteArray.size_append]; rfl
      have HPE : Hid (Q0 = Lr.T (Kr.bytes 0 (l ++ [3]))) := by
        unfold Hid
        rw [HBK.out, HQ0.out]
        rfl
      have HWE : Hid ((Kr.Law.start.run 0 (l ++ [3])).want = s.want) := by unfold Hid; rw [HRK.out]; rfl
      have HME : Hid ((Kr.Law.start.run 0 (l ++ [3])).many = s.many) := by unfold Hid; rw [HRK.out]; rfl
      have HDL : Hid ((Kr.Law.start.run 0 (l ++ [3])).deep = if 1 < s.deep.length then s.deep.take (s.deep.length - 1) else s.deep) := by unfold Hid; rw [HRK.out]; rfl
      clear HBK HRK decI
      by_cases hd1 : 1 < s.deep.length
      · have t1 : decide ((1 : Int) < (s.deep.length : Int)) = true := decide_eq_true (by omega)
        rw [if_pos hd1] at HDL
        have hdgl : dg < w2.heap.size := (HD2.out.lt dg rfl).2
        have HKC : Hid (∀ o j y, (Um.ints (s.deep.take (s.deep.length - 1)))[j]? = some y → ∃ b, some (⟨dg, 0, none⟩ : Addr) = some b ∧ (w2.alloc o).cell? (b.add j) = some y) := fun o j y hj => by
          refine ⟨_, rfl, ?_⟩
          rw [Ro.add, Nat.zero_add, World.cell?_alloc_lt _ _ _ hdgl]
          have hjl : j < s.deep.length - 1 := by
            have := (List.getElem?_eq_some_iff.1 hj).1
            rw [Um.ints_length, List.length_take] at this
            omega
          rw [HD2.out.cellAt j (by omega), ← hj]
          unfold Um.ints
          rw [List.getElem?_map, List.getElem?_map, List.getElem?_take, if_pos hjl]
        have HLN : Hid ((Um.ints (s.deep.take (s.deep.length - 1))).length = (s.deep.length - 1) * 1) := by unfold Hid; rw [Um.ints_length, List.length_take]; omega
        have hl7 : (s.deep.take (s.deep.length - 1)).length = s.deep.length - 1 := by rw [List.length_take]; omega
        have hdl2 : s.deep.length - 1 ≤ dd := by omega
        go_wp2_with (at_builtin; refine Um.copy rfl _ _ 52 3 1 8 _ rfl Tryz.underlying52 Um.infoI rfl (by decide) (base := w.heap.size) w2.heap.size rfl (Um.noInts w2 w.heap.size hWS2) (s.deep.length - 1) (Um.ints (s.deep.take (s.deep.length - 1))) (some ⟨dg, 0, none⟩) dd rfl (HKC.out _) HLN.out (Um.ints_one _) (by unfold maxLen; omega) (by omega) (by simp; omega) ?_; intro v7 w7 R7 hg7 hf7; have HDE : Hid (w7.ownsRow w.heap.size 3 1 v7 (Kr.Law.start.run 0 (l ++ [3])).deep.length (Um.ints (Kr.Law.start.run 0 (l ++ [3])).deep)) := (by unfold Hid; rw [HDL.out, hl7]; exact R7); have HBE : Hid (Below w.heap.size w w7) := (HB2.out.alloc hWS2 _).grown hg7 (by simp; omega) (fun k hk => by have := Option.some.inj hk; omega); clear R7 hg7 hf7)
        go_roundw
        case rel => exact ⟨l ++ [3], by omega, by omega, congrArg Value.string HPE.out, by rw [HWE.out], by rw [HME.out], by rw [hll]; go_num, HK2, HDE, HBE⟩
        case measure => simp [intOf]; omega
      · have t1 : decide ((1 : Int) < (s.deep.length : Int)) = false := decide_eq_false (by omega)
        rw [if_neg hd1] at HDL
        go_wp2
        go_roundw
        case rel => exact ⟨l ++ [3], by omega, by omega, congrArg Value.string HPE.out, by rw [HWE.out], by rw [HME.out], by rw [hll]; go_num, HK2, (by unfold Hid; rw [HDL.out]; exact HD2.out), HB2⟩
        case measure => simp [intOf]; omega
    · obtain ⟨ns, hI, hsk⟩ := HROW.out
      have pb := Pq.parse m (Lr.T (Kr.bytes 0 l)) ns 0 hI wr (by rw [Lr.T_size]; unfold maxLen; omega) (by rw [HB.out.cell (World.block_lt_of_cell? _ _ HMX.out)]; exact HMX.out)
      have hln := hI.len
      have HSB := Lib.hid (Kb.page hI)
      have HMAY := Lib.hid (hI.may rfl)
      have HSK := Lib.hid hsk
      have HE : Hid (l.length < n0 → l.length = 30) := fun q => by omega
      clear hsk hI HROW HRUN HBY hlt
      generalize (Kr.Law.start.run 0 l).want = SK at *
      have te : ((Lr.T SK).toList == (Lr.T SK).toList) = true := by simp
      by_cases q : l.length < n0
      · have e30 := HE.out q
        rw [e30] at q ⊢
        have d1 : decide ((30 : Int) < (n0 : Int)) = true := decide_eq_true (by omega)
        rw [show ((30 : Nat) : Int) = 30 from rfl]
        clear HE e30 hl30 hl0 hfl hfm hfw hbz
        go_wp2_with (first | (go_at_call 7; refine pb.mono ?_; rintro e w5 ⟨a5, d5, rfl, l5, b5⟩; clear pb; have HB5 := Lib.hid (HB.out.trans (b5.mono HB.out.size)); have sb := Pq.skeleton ns a5 d5 w5 (l5.on fun j hj => ⟨hj.2.1, rfl⟩) (by omega) HSB.out (HTB.out.on HB5.out); clear l5 b5) | (go_at_call 9; refine sb.mono ?_; rintro e w6 ⟨b6, hc⟩; clear sb; have he : e = .returned (.tuple #[.string (Lr.T SK), .int .i64 0]) := (by rcases hc with q | q; exact absurd HMAY.out q.1; rw [← HSK.out]; exact q.2); subst he; have HB6 := Lib.hid (HB5.out.trans (b6.mono HB5.out.size)); clear hc b6) | (go_at_call 14; refine (A8.num _ _).mono ?_; rintro e w' ⟨rfl, hw⟩; have hw := hw.symm; subst hw))
        go_ret
        exact ⟨rfl, HB6.out⟩
      · have d1 : decide ((l.length : Int) < (n0 : Int)) = false := decide_eq_false (by omega)
        clear HE
        go_wp2_with (first | (go_at_call 7; refine pb.mono ?_; rintro e w5 ⟨a5, d5, rfl, l5, b5⟩; clear pb; have HB5 := Lib.hid (HB.out.trans (b5.mono HB.out.size)); have sb := Pq.skeleton ns a5 d5 w5 (l5.on fun j hj => ⟨hj.2.1, rfl⟩) (by omega) HSB.out (HTB.out.on HB5.out); clear l5 b5) | (go_at_call 9; refine sb.mono ?_; rintro e w6 ⟨b6, hc⟩; clear sb; have he : e = .returned (.tuple #[.string (Lr.T SK), .int .i64 0]) := (by rcases hc with q | q; exact absurd HMAY.out q.1; rw [← HSK.out]; exact q.2); subst he; have HB6 := Lib.hid (HB5.out.trans (b6.mono HB5.out.size)); clear hc b6) | (go_at_call 14; refine (A8.num _ _).mono ?_; rintro e w' ⟨rfl, hw⟩; have hw := hw.symm; subst hw))
        go_ret
        exact ⟨rfl, HB6.out⟩
end Go.Proofs.YtblpkjlodncpeaaGreatDoor

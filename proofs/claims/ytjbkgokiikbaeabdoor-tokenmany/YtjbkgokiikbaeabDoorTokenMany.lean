/-
  THE WALK of stolelaw5.TokenMany: whatever the two numbers, the call returns true.
-/
import Derived.Test.YtjbkgokiikbaeabDoorTAwake
import Derived.Test.YtjbkgokiikbaeabDoorTMany
import Derived.Test.YtjbkgokiikbaeabDoorTDec
namespace Go.Proofs.YtjbkgokiikbaeabDoor
open Go.RowKit
theorem Mw.and6 (n : Int) : Go.bits .and .i64 n 63 = n % 64 := by
  have hm : (BitVec.ofInt 64 63).toNat = 2 ^ 6 - 1 := by decide
  have key : (BitVec.ofInt 64 n &&& BitVec.ofInt 64 63).toNat = (n % ((2 ^ 64 : Nat) : Int)).toNat % 2 ^ 6 := by
    rw [BitVec.toNat_and, BitVec.toNat_ofInt, hm, Nat.and_two_pow_sub_one_eq_mod]
  show IntKind.i64.wrap ((BitVec.ofInt 64 n &&& BitVec.ofInt 64 63).toNat : Nat) = n % 64
  rw [key, IntKind.wrap_i64]
  omega
theorem Mw.and4 (n : Int) : Go.bits .and .i64 n 15 = n % 16 := by
  have hm : (BitVec.ofInt 64 15).toNat = 2 ^ 4 - 1 := by decide
  have key : (BitVec.ofInt 64 n &&& BitVec.ofInt 64 15).toNat = (n % ((2 ^ 64 : Nat) : Int)).toNat % 2 ^ 4 := by
    rw [BitVec.toNat_and, BitVec.toNat_ofInt, hm, Nat.and_two_pow_sub_one_eq_mod]
  show IntKind.i64.wrap ((BitVec.ofInt 64 n &&& BitVec.ofInt 64 15).toNat : Nat) = n % 16
  rw [key, IntKind.wrap_i64]
  omega
theorem Mw.many (n : Int) : ∃ k : Nat, Go.bits .and .i64 n 63 = (k : Int) ∧ k < 64 := by
  refine ⟨(n % 64).toNat, ?_, by omega⟩
  rw [Mw.and6]
  omega
theorem Mw.dec (j : Nat) (hj : j < 64) (w : World) : Calls Tryd.prog 13 #[.int .i64 (j : Int)] w fun e w' => e = .returned (.string (My.v j)) ∧ Below w.heap.size w w' := by
  have h := Dm.decimal j (by omega) w
  rw [My.digits j (by omega)] at h
  exact h
theorem Mw.size (j : Nat) : 1 ≤ (My.v j).size ∧ (My.v j).size ≤ 2 := by
  unfold My.v My.d My.tl
  split <;> exact ⟨by show 1 ≤ (List.toArray _).size; simp, by show (List.toArray _).size ≤ 2; simp⟩
/-- the sums of a round -/
theorem Mw.sums (tw : Nat → Bool) (j : Nat) (P : ByteArray) (hP : P = ⟨([60, 112] ++ My.body tw j).toArray⟩) :
    ∃ P1 P2 P3 P4 P5 P6 P7 A : ByteArray, P ++ (⟨#[32, 65]⟩ : ByteArray) = P1 ∧ P1 ++ My.v j = P2 ∧ P2 ++ (⟨#[61]⟩ : ByteArray) = P3 ∧ P3 ++ My.v j = P4 ∧ P4 ++ (⟨#[32, 97]⟩ : ByteArray) = P5 ∧ P5 ++ My.v j = P6 ∧ P6 ++ (⟨#[61, 39, 120, 39]⟩ : ByteArray) = P7 ∧ (⟨#[97]⟩ : ByteArray) ++ My.v j = A ∧
      P1.size = P.size + 2 ∧ P2.size ≤ P.size + 4 ∧ P3.size ≤ P.size + 5 ∧ P4.size ≤ P.size + 7 ∧ P5.size ≤ P.size + 9 ∧ P6.size ≤ P.size + 11 ∧ P7.size ≤ P.size + 15 ∧ A.size ≤ 3 ∧ A = My.a j ∧
      (tw j = false → P4 = ⟨([60, 112] ++ My.body tw (j + 1)).toArray⟩) ∧ (tw j = true → P7 = ⟨([60, 112] ++ My.body tw (j + 1)).toArray⟩) := by
  have hz := Mw.size j
  have l1 : (⟨#[32, 65]⟩ : ByteArray).size = 2 := rfl
  have l2 : (⟨#[61]⟩ : ByteArray).size = 1 := rfl
  have l3 : (⟨#[32, 97]⟩ : ByteArray).size = 2 := rfl
  have l4 : (⟨#[61, 39, 120, 39]⟩ : ByteArray).size = 4 := rfl
  have l5 : (⟨#[97]⟩ : ByteArray).size = 1 := rfl
  refine ⟨_, _, _, _, _, _, _, _, rfl, rfl, rfl, rfl, rfl, rfl, rfl, rfl, ?_, ?_, ?_, ?_, ?_, ?_, ?_, ?_, ?_, ?_, ?_⟩
  case refine_9 =>
    apply ByteArray.ext
    simp [ByteArray.data_append, My.a, My.v]
  case refine_10 =>
    intro h
    rw [hP]
    apply ByteArray.ext
    simp [ByteArray.data_append, My.body, My.seg, My.one, My.v, h]
    simp [My.d]
  case refine_11 =>
    intro h
    rw [hP]
    apply ByteArray.ext
    simp [ByteArray.data_append, My.body, My.seg, My.one, My.two, My.v, h]
    simp [My.d]
  all_goals (simp only [ByteArray.size_append]; omega)
theorem Mw.page (tw : Nat → Bool) (k : Nat) (hk : k ≤ 64) (P : ByteArray) (hP : P = ⟨([60, 112] ++ My.body tw k).toArray⟩) : ∃ V : ByteArray, P ++ (⟨#[62]⟩ : ByteArray) = V ∧ V.size = P.size + 1 ∧ Rd.tokens V = [⟨1, My.p, Ts.e, My.al k, false⟩] := by
  refine ⟨_, rfl, by rw [ByteArray.size_append]; rfl, ?_⟩
  rw [← My.tokens tw k hk, hP]
  exact congrArg Rd.tokens (by apply ByteArray.ext; simp [ByteArray.data_append])
theorem Mw.same (V : World) (B B' : Nat) (al : List (ByteArray × ByteArray)) (v a : Value) (h : Tk.Lies V (fun k => B ≤ k ∧ k < V.heap.size) [⟨1, My.p, Ts.e, al, false⟩] v) (ha : V.ownsRow B' 44 2 a al.length (Ak.cells al)) :
    Calls Tryd.prog 11 #[v, .slice (some ⟨V.heap.size, 0, none⟩) 1 1] (V.alloc (.cells #[.int .i64 1, .string ⟨#[112]⟩, .string ⟨#[]⟩, a, .bool false] 34)) fun e w' => e = .returned (.bool true) ∧ Below V.heap.size V w' := by
  have hb : Below V.heap.size V (V.alloc (.cells #[.int .i64 1, .string ⟨#[112]⟩, .string ⟨#[]⟩, a, .bool false] 34)) := (Below.refl _ _).alloc (Nat.le_refl _) _
  have hn : (V.alloc (.cells #[.int .i64 1, .string ⟨#[112]⟩, .string ⟨#[]⟩, a, .bool false] 34)).heap[V.heap.size]? = some (.cells #[.int .i64 1, .string ⟨#[112]⟩, .string ⟨#[]⟩, a, .bool false] 34) := heap_alloc_new V _
  generalize V.alloc (.cells #[.int .i64 1, .string ⟨#[112]⟩, .string ⟨#[]⟩, a, .bool false] 34) = D at *
  have hA : Ak.Lies D (fun _ => True) al a := (Ak.Lies.own ha).on fun k hk => ⟨trivial, hb.block k (ha.lt k hk).2⟩
  have h2 : Tk.Lies D (fun _ => True) [⟨1, My.p, Ts.e, al, false⟩] (.slice (some ⟨V.heap.size, 0, none⟩) 1 1) := Tk.Lies.lit [⟨1, My.p, Ts.e, al, false⟩] [a] _ hn rfl trivial (by show (1 : Nat) ≤ maxLen; decide) ⟨hA, trivial⟩
  refine (Sa.tokens _ _ _ (fun _ => True) _ D (h.on fun k hk => ⟨trivial, hb.block k hk.2⟩) h2).mono ?_
  rintro e w3 ⟨rfl, n3, rfl⟩
  exact ⟨rfl, Sa.drews hb n3⟩
theorem Mw.cells2 (W : World) (a v : ByteArray) : ∀ j u, (Ak.cells [(a, v)])[j]? = some u → (W.alloc (.cells #[.string a, .string v] 44)).cell? ⟨W.heap.size, j, none⟩ = some u := by
  intro j u hj
  unfold World.cell?
  rw [show (W.alloc (.cells #[.string a, .string v] 44)).heap[W.heap.size]? = some _ from heap_alloc_new W _]
  simpa [Ak.cells] using hj
set_option maxRecDepth 100000 in
set_option maxHeartbeats 8000000 in
theorem Law.tokenMany (n t : Int) (m : Int) (w : World) (hm : w.cell? ⟨0, 0, none⟩ = some (.int .i64 m)) (_hn : -9223372036854775808 ≤ n ∧ n ≤ 9223372036854775807) (_ht : -9223372036854775808 ≤ t ∧ t ≤ 9223372036854775807) :
    Calls Tryd.prog 5 #[.int .i64 n, .int .i64 t] w fun e w' => e = .returned (.bool true) ∧ Below w.heap.size w w' := by
  obtain ⟨k, hk, hk64⟩ := Mw.many n
  have haw := Aw.awake m w hm
  have HM := Lib.hid hm
  clear hm
  obtain ⟨tw, htw⟩ : ∃ tw : Nat → Bool, ∀ j : Nat, tw j = (Go.bits .and .i64 (t / 2 ^ (j % 16)) 1 == 1) := ⟨_, fun _ => rfl⟩
  have HTW := Lib.hid htw
  clear htw
  go_enter Tryd.func5, Tryd.ntmps5
  go_wp2_with (go_at_call 7; refine haw.mono ?_; rintro e w1 ⟨rfl, q1⟩; clear haw; have HB1 := Lib.hid q1; clear q1)
  go_loopw [6, 7, 8] (fun p v i wr => ∃ (j : Nat) (P : ByteArray), j ≤ k + 1 ∧ i = .int .i64 (j : Int) ∧ p = .string P ∧ P.size ≤ 2 + j * 15 ∧ Hid (P = ⟨([60, 112] ++ My.body tw j).toArray⟩) ∧ Hid (wr.ownsRow w.heap.size 44 2 v (My.al j).length (Ak.cells (My.al j))) ∧ Hid (Below w.heap.size w wr)) (fun _ _ i _ => k + 1 - (intOf i).toNat)
  case atStart => exact ⟨0, ⟨#[60, 112]⟩, Nat.zero_le _, rfl, rfl, by decide, rfl, World.ownsRow_nil _ _ _ _, HB1.out⟩
  case round =>
    clear HB1
    obtain ⟨j, P, hj, rfl, rfl, zP, HP, HO, HB2⟩ := hrel
    by_cases hlt : j < k + 1
    · have d1 : decide ((j : Int) < 1 + (k : Int)) = true := decide_eq_true (by omega)
      have hand : Go.bits .and .i64 (j : Int) 15 = ((j % 16 : Nat) : Int) := by rw [Mw.and4]; omega
      have hD := Mw.dec j (by omega)
      have zD := Mw.size j
      obtain ⟨P1, P2, P3, P4, P5, P6, P7, A, e1, e2, e3, e4, e5, e6, e7, e8, z1, z2, z3, z4, z5, z6, z7, z8, hA, h4, h7⟩ := Mw.sums tw j P HP.out
      have HA := Lib.hid hA
      have H4 := Lib.hid h4
      have H7 := Lib.hid h7
      have htj := HTW.out j
      have hal := My.len j (by omega)
      have HN : Hid ((My.al j).length + 1 ≤ maxLen ∧ ((My.al j).length + 1) * 32 ≤ 140737488355328) := ⟨by unfold maxLen; omega, by omega⟩
      clear hA h4 h7 HTW hal
      obtain ⟨D, hDD⟩ : ∃ D, My.v j = D := ⟨_, rfl⟩
      rw [hDD] at hD zD e2 e4 e6 e8
      have HDD := Lib.hid hDD
      clear hDD
      generalize hr : j % 16 = r at *
      have hr16 : r < 16 := by omega
      clear hr
      by_cases h32 : j < 32
      · cases ht : tw j with
        | true =>
          have tt : (Go.bits .and .i64 (t / 2 ^ r) 1 == 1) = true := by rw [← htj]; exact ht
          have HP2 := Lib.hid (H7.out ht)
          clear htj ht H4 H7
          have d2 : decide ((j : Int) < 32) = true := decide_eq_true (by omega)
          have h32 : j < 32 := by omega
          go_wp2_with (first | (go_at_call 13; refine (hD _).mono ?_; rintro e w2 ⟨rfl, hb⟩; have HO2 := Lib.hid (Rm.own_on HO.out (fun k hk => hb.block k (HO.out.lt k hk).2)); have HB3 := Lib.hid (HB2.out.trans (hb.mono HB2.out.size)); clear hb hD HO HB2) | (at_builtin; refine Ro.push rfl _ _ 32 44 2 32 _ rfl Tryd.underlying32 Rm.infoA rfl (by decide) _ rfl (HO2.out.alloc _) w2.heap.size (Ak.cells [(A, D)]) rfl (Mw.cells2 w2 A D) rfl (Ak.cells_one _) HN.out.1 HN.out.2 (by have := HB3.out.size; simp; omega) ?_))
          intro v4 w4 R4 hg4 hf4
          have HR4 : Hid (w4.ownsRow w.heap.size 44 2 v4 (My.al (j + 1)).length (Ak.cells (My.al (j + 1)))) := by
            unfold Hid
            rw [My.al, if_pos h32, List.length_append, Ak.cells_append, HDD.out, ← HA.out]
            exact R4
          have HB4 : Hid (Below w.heap.size w w4) := Lib.hid ((HB3.out.alloc HB3.out.size _).grown hg4 (by have := HB3.out.size; simp; omega) (fun k hk => (HO2.out.lt k hk).1))
          clear R4 hg4 hf4 HO2 HB3
          go_wp2
          go_roundw
          case rel => exact ⟨j + 1, P7, by omega, by go_num, rfl, by omega, HP2, HR4, HB4⟩
          case measure => simp [intOf]; omega
        | false =>
          have tt : (Go.bits .and .i64 (t / 2 ^ r) 1 == 1) = false := by rw [← htj]; exact ht
          have HP2 := Lib.hid (H4.out ht)
          clear htj ht H4 H7
          have d2 : decide ((j : Int) < 32) = true := decide_eq_true (by omega)
          have h32 : j < 32 := by omega
          go_wp2_with (first | (go_at_call 13; refine (hD _).mono ?_; rintro e w2 ⟨rfl, hb⟩; have HO2 := Lib.hid (Rm.own_on HO.out (fun k hk => hb.block k (HO.out.lt k hk).2)); have HB3 := Lib.hid (HB2.out.trans (hb.mono HB2.out.size)); clear hb hD HO HB2) | (at_builtin; refine Ro.push rfl _ _ 32 44 2 32 _ rfl Tryd.underlying32 Rm.infoA rfl (by decide) _ rfl (HO2.out.alloc _) w2.heap.size (Ak.cells [(A, D)]) rfl (Mw.cells2 w2 A D) rfl (Ak.cells_one _) HN.out.1 HN.out.2 (by have := HB3.out.size; simp; omega) ?_))
          intro v4 w4 R4 hg4 hf4
          have HR4 : Hid (w4.ownsRow w.heap.size 44 2 v4 (My.al (j + 1)).length (Ak.cells (My.al (j + 1)))) := by
            unfold Hid
            rw [My.al, if_pos h32, List.length_append, Ak.cells_append, HDD.out, ← HA.out]
            exact R4
          have HB4 : Hid (Below w.heap.size w w4) := Lib.hid ((HB3.out.alloc HB3.out.size _).grown hg4 (by have := HB3.out.size; simp; omega) (fun k hk => (HO2.out.lt k hk).1))
          clear R4 hg4 hf4 HO2 HB3
          go_wp2
          go_roundw
          case rel => exact ⟨j + 1, P4, by omega, by go_num, rfl, by omega, HP2, HR4, HB4⟩
          case measure => simp [intOf]; omega
      · cases ht : tw j with
        | true =>
          have tt : (Go.bits .and .i64 (t / 2 ^ r) 1 == 1) = true := by rw [← htj]; exact ht
          have HP2 := Lib.hid (H7.out ht)
          clear htj ht H4 H7
          have d2 : decide ((j : Int) < 32) = false := decide_eq_false (by omega)
          have h32 : ¬ j < 32 := by omega
          go_wp2_with (first | (go_at_call 13; refine (hD _).mono ?_; rintro e w2 ⟨rfl, hb⟩; have HO2 := Lib.hid (Rm.own_on HO.out (fun k hk => hb.block k (HO.out.lt k hk).2)); have HB3 := Lib.hid (HB2.out.trans (hb.mono HB2.out.size)); clear hb hD HO HB2))
          go_roundw
          case rel => exact ⟨j + 1, P7, by omega, by go_num, rfl, by omega, HP2, Lib.hid (by rw [My.al, if_neg h32]; exact HO2.out), HB3⟩
          case measure => simp [intOf]; omega
        | false =>
          have tt : (Go.bits .and .i64 (t / 2 ^ r) 1 == 1) = false := by rw [← htj]; exact ht
          have HP2 := Lib.hid (H4.out ht)
          clear htj ht H4 H7
          have d2 : decide ((j : Int) < 32) = false := decide_eq_false (by omega)
          have h32 : ¬ j < 32 := by omega
          go_wp2_with (first | (go_at_call 13; refine (hD _).mono ?_; rintro e w2 ⟨rfl, hb⟩; have HO2 := Lib.hid (Rm.own_on HO.out (fun k hk => hb.block k (HO.out.lt k hk).2)); have HB3 := Lib.hid (HB2.out.trans (hb.mono HB2.out.size)); clear hb hD HO HB2))
          go_roundw
          case rel => exact ⟨j + 1, P4, by omega, by go_num, rfl, by omega, HP2, Lib.hid (by rw [My.al, if_neg h32]; exact HO2.out), HB3⟩
          case measure => simp [intOf]; omega
    · have hjk : j = k + 1 := by omega
      have d1 : decide ((j : Int) < 1 + (k : Int)) = false := decide_eq_false (by omega)
      obtain ⟨V, e1, z1, hTok⟩ := Mw.page tw j (by omega) P HP.out
      have hT := fun V' hb => Tk.short V m V' (by omega) (Tp.keep hb HM.out : World.cell? V' _ = _)
      rw [hTok] at hT
      clear hTok HM HTW HP hjk
      obtain ⟨a7, d7, rfl⟩ := Rm.form HO.out
      go_wp2_with (first | (go_at_call 9; refine (hT _ HB2.out).mono ?_; rintro e w2 ⟨v2, rfl, hl2, hb2⟩; have HL2 := Lib.hid hl2; have HO2 := Lib.hid (Rm.own_on HO.out (fun k hk => hb2.block k (HO.out.lt k hk).2)); have HB3 := Lib.hid (HB2.out.trans (hb2.mono HB2.out.size)); clear hT hl2 hb2 HO HB2) | (go_at_call 10; refine (Aw.num _ _).mono ?_; rintro e w' ⟨rfl, hw⟩; have hw := hw.symm; subst hw))
      refine (Mw.same w2 _ _ _ _ _ HL2.out HO2.out).mono ?_
      rintro e w3 ⟨rfl, hc3⟩
      have HC3 := Lib.hid hc3
      clear hc3 HL2 HO2
      go_wp2
      go_ret
      exact ⟨rfl, HB3.out.trans (HC3.out.mono HB3.out.size)⟩
end Go.Proofs.YtjbkgokiikbaeabDoor

/-
  THE WALK of stolelaw5.TokenTags: whatever the numbers, the texts, the number and the truth value, the call returns true.
-/
import Derived.Test.YtjbkgokiikbaeaaGreatDoorTAwake
import Derived.Test.YtjbkgokiikbaeaaGreatDoorTTag
import Derived.Test.YtjbkgokiikbaeaaGreatDoorTDec
import Derived.Test.YtjbkgokiikbaeaaGreatDoorTCtx
namespace Go.Proofs.YtjbkgokiikbaeaaGreatDoor
open Go.RowKit
theorem Gw.ne_true {c d : UInt8} (h : ¬ c = d) : ((c.toNat : Int) != (d.toNat : Int)) = true := by
  rw [bne, Tp.eq_false h]; rfl
theorem Gw.ne_false {c d : UInt8} (h : c = d) : ((c.toNat : Int) != (d.toNat : Int)) = false := by
  rw [bne, Tp.eq_true h]; rfl
theorem Gw.and8 (n : Int) : ∃ b : Nat, Go.bits .and .i64 n 255 = (b : Int) ∧ b < 256 := by
  have hm : (BitVec.ofInt 64 255).toNat = 2 ^ 8 - 1 := by decide
  have key : (BitVec.ofInt 64 n &&& BitVec.ofInt 64 255).toNat = (n % ((2 ^ 64 : Nat) : Int)).toNat % 2 ^ 8 := by
    rw [BitVec.toNat_and, BitVec.toNat_ofInt, hm, Nat.and_two_pow_sub_one_eq_mod]
  have h : Go.bits .and .i64 n 255 = n % 256 := by
    show IntKind.i64.wrap ((BitVec.ofInt 64 n &&& BitVec.ofInt 64 255).toNat : Nat) = n % 256
    rw [key, IntKind.wrap_i64]
    omega
  exact ⟨(n % 256).toNat, by rw [h]; omega, by omega⟩
theorem Gw.dec (i b : Nat) (h : i < 12) (hb : b < 256) (w : World) : Calls Tryz.prog 16 #[.int .i64 ((i : Int) * 1000 + (b : Int))] w fun e w' => e = .returned (.string ⟨(Lib.decDigits (i * 1000 + b)).toArray⟩) ∧ Below w.heap.size w w' := by
  have h := Dm.decimal (i * 1000 + b) (by omega) w
  rw [show ((i * 1000 + b : Nat) : Int) = (i : Int) * 1000 + (b : Int) by omega] at h
  exact h
/-- what a row of parts keeps to -/
structure Gw.Row (ps : List Tg.Part) (i : Nat) : Prop where
  len : ps.length = i
  ok : ∀ p ∈ ps, Tg.Part.Ok p
  low : ∀ p ∈ ps, p.num < i * 1000
  apart : List.Pairwise (fun a b : Tg.Part => a.num ≠ b.num) ps
theorem Gw.row0 : Gw.Row (List.nil) 0 := by
  refine Gw.Row.mk rfl ?_ ?_ List.Pairwise.nil
  · intro p h
    simp at h
  · intro p h
    simp at h
theorem Gw.Row.snoc {ps : List Tg.Part} {i : Nat} (h : Gw.Row ps i) (p : Tg.Part) (hp : Tg.Part.Ok p) (h1 : i * 1000 ≤ p.num) (h2 : p.num < (i + 1) * 1000) : Gw.Row (ps ++ [p]) (i + 1) := by
  refine ⟨by simp [h.len], fun x hx => ?_, fun x hx => ?_, ?_⟩
  · rcases List.mem_append.1 hx with q | q
    · exact h.ok x q
    · rw [List.mem_singleton.1 q]; exact hp
  · rcases List.mem_append.1 hx with q | q
    · exact Nat.lt_of_lt_of_le (h.low x q) (Nat.mul_le_mul_right 1000 (Nat.le_succ i))
    · rw [List.mem_singleton.1 q]; exact h2
  · refine List.pairwise_append.2 ⟨h.apart, List.pairwise_singleton _ _, fun a ha b hb => ?_⟩
    rw [List.mem_singleton.1 hb]
    exact Nat.ne_of_lt (Nat.lt_of_lt_of_le (h.low a ha) h1)
/-- a value's bytes -/
def Gw.Val (x : ByteArray) : Prop := ∀ c ∈ x.data.toList, c ≠ 34 ∧ c ≠ 39 ∧ c ≠ 38 ∧ c ≠ 13
theorem Gw.val0 : Gw.Val ⟨#[]⟩ := fun c h => by cases h
theorem Gw.val1 {x : ByteArray} {c : UInt8} (h : Gw.Val x) (h1 : ¬ c = 34) (h2 : ¬ c = 39) (h3 : ¬ c = 38) (h4 : ¬ c = 13) : Gw.Val (x ++ ⟨#[c]⟩) := by
  intro y hy
  rw [ByteArray.data_append, Array.toList_append] at hy
  rcases List.mem_append.1 hy with q | q
  · exact h y q
  · have : y = c := by simpa using q
    rw [this]
    exact ⟨h1, h2, h3, h4⟩
/-- the sums of a round -/
theorem Gw.sums (ps : List Tg.Part) (i b : Nat) (hi : i < 12) (hb : b < 256) (P D X : ByteArray) (q : UInt8) (hq : q = 34 ∨ q = 39) (hr : Gw.Row ps i) (hP : P = ⟨([60, 68, 105, 86] ++ Tg.body ps).toArray⟩) (hD : D = ⟨(Lib.decDigits (i * 1000 + b)).toArray⟩) (hX : Gw.Val X) (zX : X.size ≤ 30) :
    ∃ (N P1 P2 P3 P4 P5 P6 : ByteArray) (ps' : List Tg.Part), (⟨#[97]⟩ : ByteArray) ++ D = N ∧ P ++ (⟨#[32]⟩ : ByteArray) = P1 ∧ P1 ++ N = P2 ∧ P2 ++ (⟨#[61]⟩ : ByteArray) = P3 ∧ P3 ++ (⟨#[q]⟩ : ByteArray) = P4 ∧ P4 ++ X = P5 ∧ P5 ++ (⟨#[q]⟩ : ByteArray) = P6 ∧
      N.size ≤ 6 ∧ P1.size ≤ P.size + 1 ∧ P2.size ≤ P.size + 7 ∧ P3.size ≤ P.size + 8 ∧ P4.size ≤ P.size + 9 ∧ P5.size ≤ P.size + 39 ∧ P6.size ≤ P.size + 40 ∧
      Gw.Row ps' (i + 1) ∧ P6 = ⟨([60, 68, 105, 86] ++ Tg.body ps').toArray⟩ ∧ Tg.al ps' = Tg.al ps ++ [(N, X)] := by
  have zD : D.size ≤ 5 := by rw [hD]; show (List.toArray _).size ≤ _; simpa using Tg.len 4 (i * 1000 + b) (by omega)
  have l1 : (⟨#[97]⟩ : ByteArray).size = 1 := rfl
  have l2 : (⟨#[32]⟩ : ByteArray).size = 1 := rfl
  have l3 : (⟨#[61]⟩ : ByteArray).size = 1 := rfl
  have l4 : (⟨#[q]⟩ : ByteArray).size = 1 := rfl
  have eX : X = ⟨X.data.toList.toArray⟩ := by apply ByteArray.ext; simp
  have hp : Tg.Part.Ok ⟨i * 1000 + b, q, X.data.toList⟩ := ⟨by show i * 1000 + b < 100000; omega, hq, fun x hx => hX x hx⟩
  refine ⟨_, _, _, _, _, _, _, ps ++ [⟨i * 1000 + b, q, X.data.toList⟩], rfl, rfl, rfl, rfl, rfl, rfl, rfl, ?_, ?_, ?_, ?_, ?_, ?_, ?_, hr.snoc _ hp (by show i * 1000 ≤ i * 1000 + b; omega) (by show i * 1000 + b < _; omega), ?_, ?_⟩
  case refine_8 =>
    rw [Tg.body_snoc, hP, hD]
    apply ByteArray.ext
    simp [ByteArray.data_append, Tg.seg]
  case refine_9 =>
    rw [Tg.al_snoc, hD]
    have e1 : (⟨#[97]⟩ : ByteArray) ++ ⟨(Lib.decDigits (i * 1000 + b)).toArray⟩ = Tg.name (i * 1000 + b) := by
      apply ByteArray.ext
      simp [ByteArray.data_append, Tg.name]
    rw [e1, ← eX]
  all_goals (simp only [ByteArray.size_append]; omega)
theorem Gw.page (ps : List Tg.Part) (i : Nat) (hi : i ≤ 12) (P : ByteArray) (vd : Bool) (hr : Gw.Row ps i) (hP : P = ⟨([60, 68, 105, 86] ++ Tg.body ps).toArray⟩) (E : ByteArray) (hE : E = ⟨(Tg.fin vd).toArray⟩) :
    ∃ V1 V2 : ByteArray, P ++ E = V1 ∧ V1 ++ (⟨#[120]⟩ : ByteArray) = V2 ∧ V1.size ≤ P.size + 3 ∧ V2.size ≤ P.size + 4 ∧ Rd.tokens V2 = [⟨1, Tg.div, Ts.e, Tg.al ps, vd⟩, ⟨0, Ts.e, ⟨#[120]⟩, [], false⟩] ∧ Ts.all V1.data.toList = Ts.start := by
  have zE : E.size ≤ 3 := by rw [hE]; cases vd <;> decide
  have l1 : (⟨#[120]⟩ : ByteArray).size = 1 := rfl
  refine ⟨_, _, rfl, rfl, by rw [ByteArray.size_append]; omega, by rw [ByteArray.size_append, ByteArray.size_append]; omega, ?_, ?_⟩
  · rw [← Tg.tokens ps vd (by have := hr.len; omega) hr.ok hr.apart, hP, hE]
    exact congrArg Rd.tokens (by apply ByteArray.ext; simp [ByteArray.data_append])
  · rw [← Tg.state ps vd (by have := hr.len; omega) hr.ok hr.apart, hP, hE]
    unfold Ts.all
    simp [ByteArray.data_append]
theorem Gw.same (V : World) (B B' : Nat) (al : List (ByteArray × ByteArray)) (vd : Bool) (v a : Value) (h : Tk.Lies V (fun k => B ≤ k ∧ k < V.heap.size) [⟨1, Tg.div, Ts.e, al, vd⟩, ⟨0, Ts.e, ⟨#[120]⟩, [], false⟩] v) (ha : V.ownsRow B' 45 2 a al.length (Ak.cells al)) :
    Calls Tryz.prog 13 #[v, .slice (some ⟨V.heap.size, 0, none⟩) 2 2] (V.alloc (.cells #[.int .i64 1, .string ⟨#[100, 105, 118]⟩, .string ⟨#[]⟩, a, .bool vd, .int .i64 0, .string ⟨#[]⟩, .string ⟨#[120]⟩, .slice none 0 0, .bool false] 47)) fun e w' => e = .returned (.bool true) ∧ Below V.heap.size V w' := by
  have hb : Below V.heap.size V (V.alloc (.cells #[.int .i64 1, .string ⟨#[100, 105, 118]⟩, .string ⟨#[]⟩, a, .bool vd, .int .i64 0, .string ⟨#[]⟩, .string ⟨#[120]⟩, .slice none 0 0, .bool false] 47)) := (Below.refl _ _).alloc (Nat.le_refl _) _
  have hn : (V.alloc (.cells #[.int .i64 1, .string ⟨#[100, 105, 118]⟩, .string ⟨#[]⟩, a, .bool vd, .int .i64 0, .string ⟨#[]⟩, .string ⟨#[120]⟩, .slice none 0 0, .bool false] 47)).heap[V.heap.size]? = some (.cells #[.int .i64 1, .string ⟨#[100, 105, 118]⟩, .string ⟨#[]⟩, a, .bool vd, .int .i64 0, .string ⟨#[]⟩, .string ⟨#[120]⟩, .slice none 0 0, .bool false] 47) := heap_alloc_new V _
  generalize V.alloc (.cells #[.int .i64 1, .string ⟨#[100, 105, 118]⟩, .string ⟨#[]⟩, a, .bool vd, .int .i64 0, .string ⟨#[]⟩, .string ⟨#[120]⟩, .slice none 0 0, .bool false] 47) = D at *
  have hA : Ak.Lies D (fun _ => True) al a := (Ak.Lies.own ha).on fun k hk => ⟨trivial, hb.block k (ha.lt k hk).2⟩
  have h2 : Tk.Lies D (fun _ => True) [⟨1, Tg.div, Ts.e, al, vd⟩, ⟨0, Ts.e, ⟨#[120]⟩, [], false⟩] (.slice (some ⟨V.heap.size, 0, none⟩) 2 2) := Tk.Lies.lit [⟨1, Tg.div, Ts.e, al, vd⟩, ⟨0, Ts.e, ⟨#[120]⟩, [], false⟩] [a, .slice none 0 0] _ hn rfl trivial (by show (2 : Nat) ≤ maxLen; decide) ⟨hA, Ak.Lies.nil _ _, trivial⟩
  refine (Sa.tokens _ _ _ (fun _ => True) _ D (h.on fun k hk => ⟨trivial, hb.block k hk.2⟩) h2).mono ?_
  rintro e w3 ⟨rfl, n3, rfl⟩
  exact ⟨rfl, Sa.drews hb n3⟩
theorem Gw.cells2 (W : World) (a v : ByteArray) : ∀ j u, (Ak.cells [(a, v)])[j]? = some u → (W.alloc (.cells #[.string a, .string v] 45)).cell? ⟨W.heap.size, j, none⟩ = some u := by
  intro j u hj
  unfold World.cell?
  rw [show (W.alloc (.cells #[.string a, .string v] 45)).heap[W.heap.size]? = some _ from heap_alloc_new W _]
  simpa [Ak.cells] using hj
theorem Gw.at (V1 : ByteArray) (u : World) (hs : V1.size ≤ 1000000) (h : Ts.all V1.data.toList = Ts.start) : Calls Tryz.prog 18 #[.string V1] u fun e w' => e = .returned (.agg #[.int .i64 0, .string ⟨#[]⟩, .bool false, .string ⟨#[]⟩, .string ⟨#[]⟩, .int .i64 0]) ∧ Below u.heap.size u w' := by
  have h2 := Aw.at V1 u hs
  rw [h] at h2
  exact h2
set_option maxRecDepth 100000 in
set_option maxHeartbeats 16000000 in
theorem Law.tokenTags (a0 a1 : Option Addr) (n0 c0 n1 c1 : Nat) (t : Int) (vd : Bool) (m : Int) (w : World) (hm : w.cell? ⟨0, 0, none⟩ = some (.int .i64 m))
    (hc0 : n0 ≤ c0 ∧ c0 ≤ 9223372036854775807) (hc1 : n1 ≤ c1 ∧ c1 ≤ 9223372036854775807)
    (hN : ∀ i, i < n0 → ∃ b o x, a0 = some ⟨b, o, none⟩ ∧ w.cell? ⟨b, o + i, none⟩ = some (.int .i64 x))
    (hV : ∀ i, i < n1 → ∃ b o v, a1 = some ⟨b, o, none⟩ ∧ w.cell? ⟨b, o + i, none⟩ = some (.string v) ∧ v.size ≤ 9223372036854775807) :
    Calls Tryz.prog 5 #[.slice a0 n0 c0, .slice a1 n1 c1, .int .i64 t, .bool vd] w fun e w' => e = .returned (.bool true) ∧ Below w.heap.size w w' := by
  have haw := Aw.awake m w hm
  have HM := Lib.hid hm
  have HN := Lib.hid hN
  have HV := Lib.hid hV
  clear hm hN hV
  go_enter Tryz.func5, Tryz.ntmps5
  go_wp2_with (go_at_call 7; refine haw.mono ?_; rintro e w1 ⟨rfl, q1⟩; clear haw; have HB1 := Lib.hid q1; clear q1)
  go_loopw [9, 10, 11] (fun p v i wr => ∃ (j : Nat) (ps : List Tg.Part) (P : ByteArray), j ≤ 12 ∧ j ≤ n0 ∧ j ≤ n1 ∧ i = .int .i64 (j : Int) ∧ p = .string P ∧ P.size ≤ 4 + j * 40 ∧ Hid (P = ⟨([60, 68, 105, 86] ++ Tg.body ps).toArray⟩) ∧ Hid (Gw.Row ps j) ∧ Hid (wr.ownsRow w.heap.size 45 2 v (Tg.al ps).length (Ak.cells (Tg.al ps))) ∧ Hid (Below w.heap.size w wr)) (fun _ _ i _ => 12 - (intOf i).toNat)
  case atStart => exact ⟨0, [], ⟨#[60, 68, 105, 86]⟩, Nat.zero_le _, Nat.zero_le _, Nat.zero_le _, rfl, rfl, by decide, rfl, Gw.row0, World.ownsRow_nil _ _ _ _, HB1.out⟩
  case round =>
    clear HB1
    obtain ⟨j, ps, P, hj12, hj0, hj1, rfl, rfl, zP, HP, HR, HO, HB2⟩ := hrel
    by_cases h0 : j < n0
    · have d0 : decide ((j : Int) < (n0 : Int)) = true := decide_eq_true (by omega)
      by_cases h1 : j < n1
      · have d1 : decide ((j : Int) < (n1 : Int)) = true := decide_eq_true (by omega)
        by_cases h2 : j < 12
        · have d2 : decide ((j : Int) < 12) = true := decide_eq_true (by omega)
          obtain ⟨b0, o0, x, rfl, cx⟩ := HN.out j h0
          obtain ⟨b1, o1, vv, rfl, cv, zv⟩ := HV.out j h1
          have ex := Tp.keep HB2.out cx
          have HCV := Lib.hid cv
          obtain ⟨b, hb, hb8⟩ := Gw.and8 x
          have hD := Gw.dec j b h2 hb8
          have hjc0 : j < c0 := by omega
          have hjc1 : j < c1 := by omega
          have zD : (⟨(Lib.decDigits (j * 1000 + b)).toArray⟩ : ByteArray).size ≤ 5 := by show (List.toArray _).size ≤ _; simpa using Tg.len 4 (j * 1000 + b) (by omega)
          obtain ⟨D, hDD⟩ : ∃ D, (⟨(Lib.decDigits (j * 1000 + b)).toArray⟩ : ByteArray) = D := ⟨_, rfl⟩
          rw [hDD] at hD zD
          have HD := Lib.hid hDD
          obtain ⟨N, eN⟩ : ∃ N, (⟨#[97]⟩ : ByteArray) ++ D = N := ⟨_, rfl⟩
          have zN : N.size ≤ 6 := by rw [← eN, ByteArray.size_append]; show 1 + _ ≤ _; omega
          clear hDD cx cv
          cases ht : (Go.bits .and .i64 (t / 2 ^ j) 1 == 1) with
          | true =>
            have tt : (Go.bits .and .i64 (t / 2 ^ j) 1 == 1) = true := ht
            clear ht
            go_wp2_with (first | (go_at_call 16; refine (hD _).mono ?_; rintro e w2 ⟨rfl, hbd⟩; have HO2 := Lib.hid (Rm.own_on HO.out (fun k hk => hbd.block k (HO.out.lt k hk).2)); have HB3 := Lib.hid (HB2.out.trans (hbd.mono HB2.out.size)); clear hbd hD HO HB2 ex))
            go_loopw [13, 15] (fun y i wi => ∃ (k : Nat) (X : ByteArray), k ≤ vv.size ∧ k ≤ 30 ∧ i = .int .i64 (k : Int) ∧ y = .string X ∧ X.size ≤ k ∧ Hid (Gw.Val X) ∧ Hid (wi.ownsRow w.heap.size 45 2 u10 (Tg.al ps).length (Ak.cells (Tg.al ps))) ∧ Hid (Below w.heap.size w wi)) (fun _ i _ => vv.size - (intOf i).toNat)
            case atStart => exact ⟨0, ⟨#[]⟩, Nat.zero_le _, Nat.zero_le _, rfl, rfl, Nat.le_refl _, Gw.val0, HO2, HB3⟩
            case round =>
              clear HO2 HB3
              obtain ⟨k, X, hk, hk30, rfl, rfl, hX, HX, HO4, HB4⟩ := hrel
              have ev := Tp.keep HB4.out HCV.out
              by_cases hlt : k < vv.size
              · have dk : decide ((k : Int) < (vv.size : Int)) = true := decide_eq_true (by omega)
                by_cases h30 : k < 30
                · have d30 : decide ((k : Int) < 30) = true := decide_eq_true (by omega)
                  by_cases g1 : vv[k] = 34
                  · have t1 : ((vv[k].toNat : Int) != 34) = false := Gw.ne_false g1
                    clear g1 
                    go_wp2
                    go_roundw
                    case rel => exact ⟨k + 1, X, by omega, by omega, by go_num, rfl, by omega, HX, HO4, HB4⟩
                    case measure => simp [intOf]; omega
                  have t1 : ((vv[k].toNat : Int) != 34) = true := Gw.ne_true g1
                  by_cases g2 : vv[k] = 39
                  · have t2 : ((vv[k].toNat : Int) != 39) = false := Gw.ne_false g2
                    clear g2 g1
                    go_wp2
                    go_roundw
                    case rel => exact ⟨k + 1, X, by omega, by omega, by go_num, rfl, by omega, HX, HO4, HB4⟩
                    case measure => simp [intOf]; omega
                  have t2 : ((vv[k].toNat : Int) != 39) = true := Gw.ne_true g2
                  by_cases g3 : vv[k] = 38
                  · have t3 : ((vv[k].toNat : Int) != 38) = false := Gw.ne_false g3
                    clear g3 g1 g2
                    go_wp2
                    go_roundw
                    case rel => exact ⟨k + 1, X, by omega, by omega, by go_num, rfl, by omega, HX, HO4, HB4⟩
                    case measure => simp [intOf]; omega
                  have t3 : ((vv[k].toNat : Int) != 38) = true := Gw.ne_true g3
                  by_cases g4 : vv[k] = 13
                  · have t4 : ((vv[k].toNat : Int) != 13) = false := Gw.ne_false g4
                    clear g4 g1 g2 g3
                    go_wp2
                    go_roundw
                    case rel => exact ⟨k + 1, X, by omega, by omega, by go_num, rfl, by omega, HX, HO4, HB4⟩
                    case measure => simp [intOf]; omega
                  have t4 : ((vv[k].toNat : Int) != 13) = true := Gw.ne_true g4
                  have HX2 := Lib.hid (Gw.val1 HX.out g1 g2 g3 g4)
                  have zX2 : (X ++ (⟨#[vv[k]]⟩ : ByteArray)).size = X.size + 1 := by rw [ByteArray.size_append]; rfl
                  clear g1 g2 g3 g4
                  have hv := Tp.conv1 wr vv[k]
                  go_wp2
                  go_roundw
                  case rel => exact ⟨k + 1, X ++ ⟨#[vv[k]]⟩, by omega, by omega, by go_num, rfl, by omega, HX2, HO4.out.alloc _, HB4.out.alloc HB4.out.size _⟩
                  case measure => simp [intOf]; omega
                · have d30 : decide ((k : Int) < 30) = false := decide_eq_false (by omega)
                  have zX : X.size ≤ 30 := by omega
                  obtain ⟨N', P1, P2, P3, P4, P5, P6, ps', eN', e1, e2, e3, e4, e5, e6, zN', z1, z2, z3, z4, z5, z6, hr', hP', hal⟩ := Gw.sums ps j b h2 hb8 P D X 39 (by decide) HR.out HP.out HD.out.symm HX.out zX
                  rw [eN] at eN'
                  subst eN'
                  have HR' := Lib.hid hr'
                  have HP' := Lib.hid hP'
                  have HAL := Lib.hid hal
                  have hln : (Tg.al ps).length ≤ 12 := by have := HR.out.len; simp [Tg.al]; omega
                  have HNN : Hid ((Tg.al ps).length + 1 ≤ maxLen ∧ ((Tg.al ps).length + 1) * 32 ≤ 140737488355328) := ⟨by unfold maxLen; omega, by omega⟩
                  have hsz := HB4.out.size
                  clear hr' hP' hal hln HCV
                  obtain ⟨a7, d7, rfl⟩ := Rm.form HO4.out
                  go_wp2_with (at_builtin; refine Ro.push rfl _ _ 41 45 2 32 _ rfl Tryz.underlying41 Rm.infoA rfl (by decide) _ rfl (HO4.out.alloc _) wr.heap.size (Ak.cells [(N, X)]) rfl (Gw.cells2 wr N X) rfl (Ak.cells_one _) HNN.out.1 HNN.out.2 (by simp; omega) ?_)
                  intro v4 w4 R4 hg4 hf4
                  have HR4 : Hid (w4.ownsRow w.heap.size 45 2 v4 (Tg.al ps').length (Ak.cells (Tg.al ps'))) := by
                    unfold Hid
                    rw [HAL.out, List.length_append, Ak.cells_append]
                    exact R4
                  have HB5 : Hid (Below w.heap.size w w4) := Lib.hid ((HB4.out.alloc HB4.out.size _).grown hg4 (by simp; omega) (fun k hk => (HO4.out.lt k hk).1))
                  clear R4 hg4 hf4 HO4 HB4
                  go_wp2
                  go_roundw
                  case rel => exact ⟨j + 1, ps', P6, by omega, by omega, by omega, by go_num, rfl, by omega, HP', HR', HR4, HB5⟩
                  case measure => simp [intOf]; omega
              · have dk : decide ((k : Int) < (vv.size : Int)) = false := decide_eq_false (by omega)
                have zX : X.size ≤ 30 := by omega
                obtain ⟨N', P1, P2, P3, P4, P5, P6, ps', eN', e1, e2, e3, e4, e5, e6, zN', z1, z2, z3, z4, z5, z6, hr', hP', hal⟩ := Gw.sums ps j b h2 hb8 P D X 39 (by decide) HR.out HP.out HD.out.symm HX.out zX
                rw [eN] at eN'
                subst eN'
                have HR' := Lib.hid hr'
                have HP' := Lib.hid hP'
                have HAL := Lib.hid hal
                have hln : (Tg.al ps).length ≤ 12 := by have := HR.out.len; simp [Tg.al]; omega
                have HNN : Hid ((Tg.al ps).length + 1 ≤ maxLen ∧ ((Tg.al ps).length + 1) * 32 ≤ 140737488355328) := ⟨by unfold maxLen; omega, by omega⟩
                have hsz := HB4.out.size
                clear hr' hP' hal hln HCV
                obtain ⟨a7, d7, rfl⟩ := Rm.form HO4.out
                go_wp2_with (at_builtin; refine Ro.push rfl _ _ 41 45 2 32 _ rfl Tryz.underlying41 Rm.infoA rfl (by decide) _ rfl (HO4.out.alloc _) wr.heap.size (Ak.cells [(N, X)]) rfl (Gw.cells2 wr N X) rfl (Ak.cells_one _) HNN.out.1 HNN.out.2 (by simp; omega) ?_)
                intro v4 w4 R4 hg4 hf4
                have HR4 : Hid (w4.ownsRow w.heap.size 45 2 v4 (Tg.al ps').length (Ak.cells (Tg.al ps'))) := by
                  unfold Hid
                  rw [HAL.out, List.length_append, Ak.cells_append]
                  exact R4
                have HB5 : Hid (Below w.heap.size w w4) := Lib.hid ((HB4.out.alloc HB4.out.size _).grown hg4 (by simp; omega) (fun k hk => (HO4.out.lt k hk).1))
                clear R4 hg4 hf4 HO4 HB4
                go_wp2
                go_roundw
                case rel => exact ⟨j + 1, ps', P6, by omega, by omega, by omega, by go_num, rfl, by omega, HP', HR', HR4, HB5⟩
                case measure => simp [intOf]; omega
          | false =>
            have tt : (Go.bits .and .i64 (t / 2 ^ j) 1 == 1) = false := ht
            clear ht
            go_wp2_with (first | (go_at_call 16; refine (hD _).mono ?_; rintro e w2 ⟨rfl, hbd⟩; have HO2 := Lib.hid (Rm.own_on HO.out (fun k hk => hbd.block k (HO.out.lt k hk).2)); have HB3 := Lib.hid (HB2.out.trans (hbd.mono HB2.out.size)); clear hbd hD HO HB2 ex))
            go_loopw [13, 15] (fun y i wi => ∃ (k : Nat) (X : ByteArray), k ≤ vv.size ∧ k ≤ 30 ∧ i = .int .i64 (k : Int) ∧ y = .string X ∧ X.size ≤ k ∧ Hid (Gw.Val X) ∧ Hid (wi.ownsRow w.heap.size 45 2 u10 (Tg.al ps).length (Ak.cells (Tg.al ps))) ∧ Hid (Below w.heap.size w wi)) (fun _ i _ => vv.size - (intOf i).toNat)
            case atStart => exact ⟨0, ⟨#[]⟩, Nat.zero_le _, Nat.zero_le _, rfl, rfl, Nat.le_refl _, Gw.val0, HO2, HB3⟩
            case round =>
              clear HO2 HB3
              obtain ⟨k, X, hk, hk30, rfl, rfl, hX, HX, HO4, HB4⟩ := hrel
              have ev := Tp.keep HB4.out HCV.out
              by_cases hlt : k < vv.size
              · have dk : decide ((k : Int) < (vv.size : Int)) = true := decide_eq_true (by omega)
                by_cases h30 : k < 30
                · have d30 : decide ((k : Int) < 30) = true := decide_eq_true (by omega)
                  by_cases g1 : vv[k] = 34
                  · have t1 : ((vv[k].toNat : Int) != 34) = false := Gw.ne_false g1
                    clear g1 
                    go_wp2
                    go_roundw
                    case rel => exact ⟨k + 1, X, by omega, by omega, by go_num, rfl, by omega, HX, HO4, HB4⟩
                    case measure => simp [intOf]; omega
                  have t1 : ((vv[k].toNat : Int) != 34) = true := Gw.ne_true g1
                  by_cases g2 : vv[k] = 39
                  · have t2 : ((vv[k].toNat : Int) != 39) = false := Gw.ne_false g2
                    clear g2 g1
                    go_wp2
                    go_roundw
                    case rel => exact ⟨k + 1, X, by omega, by omega, by go_num, rfl, by omega, HX, HO4, HB4⟩
                    case measure => simp [intOf]; omega
                  have t2 : ((vv[k].toNat : Int) != 39) = true := Gw.ne_true g2
                  by_cases g3 : vv[k] = 38
                  · have t3 : ((vv[k].toNat : Int) != 38) = false := Gw.ne_false g3
                    clear g3 g1 g2
                    go_wp2
                    go_roundw
                    case rel => exact ⟨k + 1, X, by omega, by omega, by go_num, rfl, by omega, HX, HO4, HB4⟩
                    case measure => simp [intOf]; omega
                  have t3 : ((vv[k].toNat : Int) != 38) = true := Gw.ne_true g3
                  by_cases g4 : vv[k] = 13
                  · have t4 : ((vv[k].toNat : Int) != 13) = false := Gw.ne_false g4
                    clear g4 g1 g2 g3
                    go_wp2
                    go_roundw
                    case rel => exact ⟨k + 1, X, by omega, by omega, by go_num, rfl, by omega, HX, HO4, HB4⟩
                    case measure => simp [intOf]; omega
                  have t4 : ((vv[k].toNat : Int) != 13) = true := Gw.ne_true g4
                  have HX2 := Lib.hid (Gw.val1 HX.out g1 g2 g3 g4)
                  have zX2 : (X ++ (⟨#[vv[k]]⟩ : ByteArray)).size = X.size + 1 := by rw [ByteArray.size_append]; rfl
                  clear g1 g2 g3 g4
                  have hv := Tp.conv1 wr vv[k]
                  go_wp2
                  go_roundw
                  case rel => exact ⟨k + 1, X ++ ⟨#[vv[k]]⟩, by omega, by omega, by go_num, rfl, by omega, HX2, HO4.out.alloc _, HB4.out.alloc HB4.out.size _⟩
                  case measure => simp [intOf]; omega
                · have d30 : decide ((k : Int) < 30) = false := decide_eq_false (by omega)
                  have zX : X.size ≤ 30 := by omega
                  obtain ⟨N', P1, P2, P3, P4, P5, P6, ps', eN', e1, e2, e3, e4, e5, e6, zN', z1, z2, z3, z4, z5, z6, hr', hP', hal⟩ := Gw.sums ps j b h2 hb8 P D X 34 (by decide) HR.out HP.out HD.out.symm HX.out zX
                  rw [eN] at eN'
                  subst eN'
                  have HR' := Lib.hid hr'
                  have HP' := Lib.hid hP'
                  have HAL := Lib.hid hal
                  have hln : (Tg.al ps).length ≤ 12 := by have := HR.out.len; simp [Tg.al]; omega
                  have HNN : Hid ((Tg.al ps).length + 1 ≤ maxLen ∧ ((Tg.al ps).length + 1) * 32 ≤ 140737488355328) := ⟨by unfold maxLen; omega, by omega⟩
                  have hsz := HB4.out.size
                  clear hr' hP' hal hln HCV
                  obtain ⟨a7, d7, rfl⟩ := Rm.form HO4.out
                  go_wp2_with (at_builtin; refine Ro.push rfl _ _ 41 45 2 32 _ rfl Tryz.underlying41 Rm.infoA rfl (by decide) _ rfl (HO4.out.alloc _) wr.heap.size (Ak.cells [(N, X)]) rfl (Gw.cells2 wr N X) rfl (Ak.cells_one _) HNN.out.1 HNN.out.2 (by simp; omega) ?_)
                  intro v4 w4 R4 hg4 hf4
                  have HR4 : Hid (w4.ownsRow w.heap.size 45 2 v4 (Tg.al ps').length (Ak.cells (Tg.al ps'))) := by
                    unfold Hid
                    rw [HAL.out, List.length_append, Ak.cells_append]
                    exact R4
                  have HB5 : Hid (Below w.heap.size w w4) := Lib.hid ((HB4.out.alloc HB4.out.size _).grown hg4 (by simp; omega) (fun k hk => (HO4.out.lt k hk).1))
                  clear R4 hg4 hf4 HO4 HB4
                  go_wp2
                  go_roundw
                  case rel => exact ⟨j + 1, ps', P6, by omega, by omega, by omega, by go_num, rfl, by omega, HP', HR', HR4, HB5⟩
                  case measure => simp [intOf]; omega
              · have dk : decide ((k : Int) < (vv.size : Int)) = false := decide_eq_false (by omega)
                have zX : X.size ≤ 30 := by omega
                obtain ⟨N', P1, P2, P3, P4, P5, P6, ps', eN', e1, e2, e3, e4, e5, e6, zN', z1, z2, z3, z4, z5, z6, hr', hP', hal⟩ := Gw.sums ps j b h2 hb8 P D X 34 (by decide) HR.out HP.out HD.out.symm HX.out zX
                rw [eN] at eN'
                subst eN'
                have HR' := Lib.hid hr'
                have HP' := Lib.hid hP'
                have HAL := Lib.hid hal
                have hln : (Tg.al ps).length ≤ 12 := by have := HR.out.len; simp [Tg.al]; omega
                have HNN : Hid ((Tg.al ps).length + 1 ≤ maxLen ∧ ((Tg.al ps).length + 1) * 32 ≤ 140737488355328) := ⟨by unfold maxLen; omega, by omega⟩
                have hsz := HB4.out.size
                clear hr' hP' hal hln HCV
                obtain ⟨a7, d7, rfl⟩ := Rm.form HO4.out
                go_wp2_with (at_builtin; refine Ro.push rfl _ _ 41 45 2 32 _ rfl Tryz.underlying41 Rm.infoA rfl (by decide) _ rfl (HO4.out.alloc _) wr.heap.size (Ak.cells [(N, X)]) rfl (Gw.cells2 wr N X) rfl (Ak.cells_one _) HNN.out.1 HNN.out.2 (by simp; omega) ?_)
                intro v4 w4 R4 hg4 hf4
                have HR4 : Hid (w4.ownsRow w.heap.size 45 2 v4 (Tg.al ps').length (Ak.cells (Tg.al ps'))) := by
                  unfold Hid
                  rw [HAL.out, List.length_append, Ak.cells_append]
                  exact R4
                have HB5 : Hid (Below w.heap.size w w4) := Lib.hid ((HB4.out.alloc HB4.out.size _).grown hg4 (by simp; omega) (fun k hk => (HO4.out.lt k hk).1))
                clear R4 hg4 hf4 HO4 HB4
                go_wp2
                go_roundw
                case rel => exact ⟨j + 1, ps', P6, by omega, by omega, by omega, by go_num, rfl, by omega, HP', HR', HR4, HB5⟩
                case measure => simp [intOf]; omega
        · have d2 : decide ((j : Int) < 12) = false := decide_eq_false (by omega)
          obtain ⟨a7, d7, rfl⟩ := Rm.form HO.out
          cases vd with
          | true =>
            obtain ⟨V1, V2, e1, e2, z1, z2, hTok, hAll⟩ := Gw.page ps j hj12 P true HR.out HP.out ⟨#[32, 47, 62]⟩ rfl
            have hT := fun V' hb => Tk.short V2 m V' (by omega) (Tp.keep hb HM.out : World.cell? V' _ = _)
            rw [hTok] at hT
            have hAt := fun u => Gw.at V1 u (by omega) hAll
            have hMay := fun u => Cx.may u
            clear hTok hAll HM HP HR HN HV
            go_wp2_with (first | (go_at_call 11; refine (hT _ HB2.out).mono ?_; rintro e w2 ⟨v2, rfl, hl2, hb2⟩; have HL2 := Lib.hid hl2; have HO2 := Lib.hid (Rm.own_on HO.out (fun k hk => hb2.block k (HO.out.lt k hk).2)); have HB3 := Lib.hid (HB2.out.trans (hb2.mono HB2.out.size)); clear hT hl2 hb2 HO HB2) | (go_at_call 14; refine (Aw.num _ _).mono ?_; rintro e w' ⟨rfl, hw⟩; have hw := hw.symm; subst hw) | (go_at_call 13; refine (Gw.same w2 _ _ _ _ _ _ HL2.out HO2.out).mono ?_; rintro e w3 ⟨rfl, hc3⟩; have HC3 := Lib.hid (HB3.out.trans (hc3.mono HB3.out.size)); clear hc3 HL2 HO2 HB3) | (go_at_call 18; refine (hAt _).mono ?_; rintro e w5 ⟨rfl, hc5⟩; have HC5 := Lib.hid (HC3.out.trans (hc5.mono HC3.out.size)); clear hc5 HC3 hAt) | (go_at_call 17; refine (hMay _).mono ?_; rintro e w6 ⟨rfl, hc6⟩; have HC6 := Lib.hid (HC5.out.trans (hc6.mono HC5.out.size)); clear hc6 HC5 hMay))
            go_ret
            exact ⟨rfl, HC6.out⟩
          | false =>
            obtain ⟨V1, V2, e1, e2, z1, z2, hTok, hAll⟩ := Gw.page ps j hj12 P false HR.out HP.out ⟨#[62]⟩ rfl
            have hT := fun V' hb => Tk.short V2 m V' (by omega) (Tp.keep hb HM.out : World.cell? V' _ = _)
            rw [hTok] at hT
            have hAt := fun u => Gw.at V1 u (by omega) hAll
            have hMay := fun u => Cx.may u
            clear hTok hAll HM HP HR HN HV
            go_wp2_with (first | (go_at_call 11; refine (hT _ HB2.out).mono ?_; rintro e w2 ⟨v2, rfl, hl2, hb2⟩; have HL2 := Lib.hid hl2; have HO2 := Lib.hid (Rm.own_on HO.out (fun k hk => hb2.block k (HO.out.lt k hk).2)); have HB3 := Lib.hid (HB2.out.trans (hb2.mono HB2.out.size)); clear hT hl2 hb2 HO HB2) | (go_at_call 14; refine (Aw.num _ _).mono ?_; rintro e w' ⟨rfl, hw⟩; have hw := hw.symm; subst hw) | (go_at_call 13; refine (Gw.same w2 _ _ _ _ _ _ HL2.out HO2.out).mono ?_; rintro e w3 ⟨rfl, hc3⟩; have HC3 := Lib.hid (HB3.out.trans (hc3.mono HB3.out.size)); clear hc3 HL2 HO2 HB3) | (go_at_call 18; refine (hAt _).mono ?_; rintro e w5 ⟨rfl, hc5⟩; have HC5 := Lib.hid (HC3.out.trans (hc5.mono HC3.out.size)); clear hc5 HC3 hAt) | (go_at_call 17; refine (hMay _).mono ?_; rintro e w6 ⟨rfl, hc6⟩; have HC6 := Lib.hid (HC5.out.trans (hc6.mono HC5.out.size)); clear hc6 HC5 hMay))
            go_ret
            exact ⟨rfl, HC6.out⟩
      · have d1 : decide ((j : Int) < (n1 : Int)) = false := decide_eq_false (by omega)
        obtain ⟨a7, d7, rfl⟩ := Rm.form HO.out
        cases vd with
        | true =>
          obtain ⟨V1, V2, e1, e2, z1, z2, hTok, hAll⟩ := Gw.page ps j hj12 P true HR.out HP.out ⟨#[32, 47, 62]⟩ rfl
          have hT := fun V' hb => Tk.short V2 m V' (by omega) (Tp.keep hb HM.out : World.cell? V' _ = _)
          rw [hTok] at hT
          have hAt := fun u => Gw.at V1 u (by omega) hAll
          have hMay := fun u => Cx.may u
          clear hTok hAll HM HP HR HN HV
          go_wp2_with (first | (go_at_call 11; refine (hT _ HB2.out).mono ?_; rintro e w2 ⟨v2, rfl, hl2, hb2⟩; have HL2 := Lib.hid hl2; have HO2 := Lib.hid (Rm.own_on HO.out (fun k hk => hb2.block k (HO.out.lt k hk).2)); have HB3 := Lib.hid (HB2.out.trans (hb2.mono HB2.out.size)); clear hT hl2 hb2 HO HB2) | (go_at_call 14; refine (Aw.num _ _).mono ?_; rintro e w' ⟨rfl, hw⟩; have hw := hw.symm; subst hw) | (go_at_call 13; refine (Gw.same w2 _ _ _ _ _ _ HL2.out HO2.out).mono ?_; rintro e w3 ⟨rfl, hc3⟩; have HC3 := Lib.hid (HB3.out.trans (hc3.mono HB3.out.size)); clear hc3 HL2 HO2 HB3) | (go_at_call 18; refine (hAt _).mono ?_; rintro e w5 ⟨rfl, hc5⟩; have HC5 := Lib.hid (HC3.out.trans (hc5.mono HC3.out.size)); clear hc5 HC3 hAt) | (go_at_call 17; refine (hMay _).mono ?_; rintro e w6 ⟨rfl, hc6⟩; have HC6 := Lib.hid (HC5.out.trans (hc6.mono HC5.out.size)); clear hc6 HC5 hMay))
          go_ret
          exact ⟨rfl, HC6.out⟩
        | false =>
          obtain ⟨V1, V2, e1, e2, z1, z2, hTok, hAll⟩ := Gw.page ps j hj12 P false HR.out HP.out ⟨#[62]⟩ rfl
          have hT := fun V' hb => Tk.short V2 m V' (by omega) (Tp.keep hb HM.out : World.cell? V' _ = _)
          rw [hTok] at hT
          have hAt := fun u => Gw.at V1 u (by omega) hAll
          have hMay := fun u => Cx.may u
          clear hTok hAll HM HP HR HN HV
          go_wp2_with (first | (go_at_call 11; refine (hT _ HB2.out).mono ?_; rintro e w2 ⟨v2, rfl, hl2, hb2⟩; have HL2 := Lib.hid hl2; have HO2 := Lib.hid (Rm.own_on HO.out (fun k hk => hb2.block k (HO.out.lt k hk).2)); have HB3 := Lib.hid (HB2.out.trans (hb2.mono HB2.out.size)); clear hT hl2 hb2 HO HB2) | (go_at_call 14; refine (Aw.num _ _).mono ?_; rintro e w' ⟨rfl, hw⟩; have hw := hw.symm; subst hw) | (go_at_call 13; refine (Gw.same w2 _ _ _ _ _ _ HL2.out HO2.out).mono ?_; rintro e w3 ⟨rfl, hc3⟩; have HC3 := Lib.hid (HB3.out.trans (hc3.mono HB3.out.size)); clear hc3 HL2 HO2 HB3) | (go_at_call 18; refine (hAt _).mono ?_; rintro e w5 ⟨rfl, hc5⟩; have HC5 := Lib.hid (HC3.out.trans (hc5.mono HC3.out.size)); clear hc5 HC3 hAt) | (go_at_call 17; refine (hMay _).mono ?_; rintro e w6 ⟨rfl, hc6⟩; have HC6 := Lib.hid (HC5.out.trans (hc6.mono HC5.out.size)); clear hc6 HC5 hMay))
          go_ret
          exact ⟨rfl, HC6.out⟩
    · have d0 : decide ((j : Int) < (n0 : Int)) = false := decide_eq_false (by omega)
      obtain ⟨a7, d7, rfl⟩ := Rm.form HO.out
      cases vd with
      | true =>
        obtain ⟨V1, V2, e1, e2, z1, z2, hTok, hAll⟩ := Gw.page ps j hj12 P true HR.out HP.out ⟨#[32, 47, 62]⟩ rfl
        have hT := fun V' hb => Tk.short V2 m V' (by omega) (Tp.keep hb HM.out : World.cell? V' _ = _)
        rw [hTok] at hT
        have hAt := fun u => Gw.at V1 u (by omega) hAll
        have hMay := fun u => Cx.may u
        clear hTok hAll HM HP HR HN HV
        go_wp2_with (first | (go_at_call 11; refine (hT _ HB2.out).mono ?_; rintro e w2 ⟨v2, rfl, hl2, hb2⟩; have HL2 := Lib.hid hl2; have HO2 := Lib.hid (Rm.own_on HO.out (fun k hk => hb2.block k (HO.out.lt k hk).2)); have HB3 := Lib.hid (HB2.out.trans (hb2.mono HB2.out.size)); clear hT hl2 hb2 HO HB2) | (go_at_call 14; refine (Aw.num _ _).mono ?_; rintro e w' ⟨rfl, hw⟩; have hw := hw.symm; subst hw) | (go_at_call 13; refine (Gw.same w2 _ _ _ _ _ _ HL2.out HO2.out).mono ?_; rintro e w3 ⟨rfl, hc3⟩; have HC3 := Lib.hid (HB3.out.trans (hc3.mono HB3.out.size)); clear hc3 HL2 HO2 HB3) | (go_at_call 18; refine (hAt _).mono ?_; rintro e w5 ⟨rfl, hc5⟩; have HC5 := Lib.hid (HC3.out.trans (hc5.mono HC3.out.size)); clear hc5 HC3 hAt) | (go_at_call 17; refine (hMay _).mono ?_; rintro e w6 ⟨rfl, hc6⟩; have HC6 := Lib.hid (HC5.out.trans (hc6.mono HC5.out.size)); clear hc6 HC5 hMay))
        go_ret
        exact ⟨rfl, HC6.out⟩
      | false =>
        obtain ⟨V1, V2, e1, e2, z1, z2, hTok, hAll⟩ := Gw.page ps j hj12 P false HR.out HP.out ⟨#[62]⟩ rfl
        have hT := fun V' hb => Tk.short V2 m V' (by omega) (Tp.keep hb HM.out : World.cell? V' _ = _)
        rw [hTok] at hT
        have hAt := fun u => Gw.at V1 u (by omega) hAll
        have hMay := fun u => Cx.may u
        clear hTok hAll HM HP HR HN HV
        go_wp2_with (first | (go_at_call 11; refine (hT _ HB2.out).mono ?_; rintro e w2 ⟨v2, rfl, hl2, hb2⟩; have HL2 := Lib.hid hl2; have HO2 := Lib.hid (Rm.own_on HO.out (fun k hk => hb2.block k (HO.out.lt k hk).2)); have HB3 := Lib.hid (HB2.out.trans (hb2.mono HB2.out.size)); clear hT hl2 hb2 HO HB2) | (go_at_call 14; refine (Aw.num _ _).mono ?_; rintro e w' ⟨rfl, hw⟩; have hw := hw.symm; subst hw) | (go_at_call 13; refine (Gw.same w2 _ _ _ _ _ _ HL2.out HO2.out).mono ?_; rintro e w3 ⟨rfl, hc3⟩; have HC3 := Lib.hid (HB3.out.trans (hc3.mono HB3.out.size)); clear hc3 HL2 HO2 HB3) | (go_at_call 18; refine (hAt _).mono ?_; rintro e w5 ⟨rfl, hc5⟩; have HC5 := Lib.hid (HC3.out.trans (hc5.mono HC3.out.size)); clear hc5 HC3 hAt) | (go_at_call 17; refine (hMay _).mono ?_; rintro e w6 ⟨rfl, hc6⟩; have HC6 := Lib.hid (HC5.out.trans (hc6.mono HC5.out.size)); clear hc6 HC5 hMay))
        go_ret
        exact ⟨rfl, HC6.out⟩
end Go.Proofs.YtjbkgokiikbaeaaGreatDoor

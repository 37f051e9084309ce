/-
  PLAIN: a sign alone, between others, cut, and with one byte more; the bytes of a number's sign.
-/
import Derived.Test.YthoneoemfkpgmaaDoorPlain
import Derived.Laws.BitsLemmas
namespace Go.Proofs.YthoneoemfkpgmaaDoor.Pl

/-- a list that is one sign -/
structure OneSign (L : List UInt8) : Prop where
  long : L ≠ []
  whole : sgn L = L.length

theorem OneSign.may {L : List UInt8} (h : OneSign L) : mayL L = true := by
  have h0 : sgn L ≠ 0 := by rw [h.whole]; exact fun e => h.long (List.eq_nil_of_length_eq_zero e)
  rw [mayL_sign L h0, h.whole, List.drop_length]; rfl
theorem OneSign.between {L : List UInt8} (h : OneSign L) : mayL ([97] ++ L ++ [98]) = true := by
  rw [may_append ([97] ++ L) [98] ?_]
  · decide
  · rw [may_append [97] L (by decide)]; exact h.may
theorem OneSign.norm {L : List UInt8} (h : OneSign L) : normL L = L := norm_of_may L h.may
theorem OneSign.more {L : List UInt8} (h : OneSign L) : mayL (L ++ [128]) = false := by
  rw [may_append L [128] h.may]; decide
theorem OneSign.normMore {L : List UInt8} (h : OneSign L) : normL (L ++ [128]) = L ++ [239, 191, 189] := by
  rw [norm_append L [128] h.may]
  have e : normL [128] = [239, 191, 189] := by decide
  rw [e]

theorem sgn1 (a : UInt8) : sgn [a] = sgnN 1 a.toNat 0 0 0 := rfl
theorem sgn2 (a b : UInt8) : sgn [a, b] = sgnN 2 a.toNat b.toNat 0 0 := rfl
theorem sgn3 (a b c : UInt8) : sgn [a, b, c] = sgnN 3 a.toNat b.toNat c.toNat 0 := rfl
theorem sgn4 (a b c d : UInt8) : sgn [a, b, c, d] = sgnN 4 a.toNat b.toNat c.toNat d.toNat := rfl
theorem n122 : (122 : UInt8).toNat = 122 := rfl

theorem one_of {a : UInt8} (h1 : 1 ≤ a.toNat) (h2 : a.toNat < 128) : OneSign [a] :=
  ⟨by simp, by rw [sgn1]; unfold sgnN; repeat' split
               all_goals first | omega | simp⟩

set_option maxHeartbeats 1000000 in
theorem two_facts {a b : UInt8} (ha : 194 ≤ a.toNat ∧ a.toNat < 224) (hb : 128 ≤ b.toNat ∧ b.toNat ≤ 191) :
    OneSign [a, b] ∧ mayL [a] = false ∧ (normL [a, 122]).length = 4 := by
  have e1 : sgn [a, b] = 2 := by rw [sgn2]; unfold sgnN; repeat' split
                                 all_goals omega
  have e2 : sgn [a] = 0 := by rw [sgn1]; unfold sgnN; repeat' split
                              all_goals omega
  have e3 : sgn [a, 122] = 0 := by rw [sgn2, n122]; unfold sgnN; repeat' split
                                   all_goals omega
  refine ⟨⟨by simp, e1⟩, mayL_bad _ (by simp) e2, ?_⟩
  rw [normL_bad _ (by simp) e3]
  have : normL (List.drop 1 [a, 122]) = [122] := by show normL [122] = _; decide
  rw [this]; rfl
set_option maxHeartbeats 1000000 in
theorem three_facts {a b c : UInt8} (ha : 224 ≤ a.toNat ∧ a.toNat < 240) (hb : 128 ≤ b.toNat ∧ b.toNat ≤ 191) (hc : 128 ≤ c.toNat ∧ c.toNat ≤ 191) (h1 : a.toNat = 224 → 160 ≤ b.toNat) (h2 : a.toNat = 237 → b.toNat ≤ 159) :
    OneSign [a, b, c] ∧ mayL [a, b] = false ∧ (normL [a, b, 122]).length = 7 := by
  have e1 : sgn [a, b, c] = 3 := by rw [sgn3]; unfold sgnN; repeat' split
                                    all_goals omega
  have e2 : sgn [a, b] = 0 := by rw [sgn2]; unfold sgnN; repeat' split
                                 all_goals omega
  have e3 : sgn [a, b, 122] = 0 := by rw [sgn3, n122]; unfold sgnN; repeat' split
                                      all_goals omega
  have e4 : sgn [b, 122] = 0 := by rw [sgn2, n122]; unfold sgnN; repeat' split
                                   all_goals omega
  refine ⟨⟨by simp, e1⟩, mayL_bad _ (by simp) e2, ?_⟩
  rw [normL_bad _ (by simp) e3]
  show (fffd ++ normL [b, 122]).length = 7
  rw [normL_bad _ (by simp) e4]
  have : normL (List.drop 1 [b, 122]) = [122] := by show normL [122] = _; decide
  rw [this]; rfl
set_option maxHeartbeats 1000000 in
theorem four_facts {a b c d : UInt8} (ha : 240 ≤ a.toNat ∧ a.toNat < 245) (hb : 128 ≤ b.toNat ∧ b.toNat ≤ 191) (hc : 128 ≤ c.toNat ∧ c.toNat ≤ 191) (hd : 128 ≤ d.toNat ∧ d.toNat ≤ 191) (h1 : a.toNat = 240 → 144 ≤ b.toNat) (h2 : a.toNat = 244 → b.toNat ≤ 143) :
    OneSign [a, b, c, d] ∧ mayL [a, b, c] = false ∧ (normL [a, b, c, 122]).length = 10 := by
  have e1 : sgn [a, b, c, d] = 4 := by rw [sgn4]; unfold sgnN; repeat' split
                                       all_goals omega
  have e2 : sgn [a, b, c] = 0 := by rw [sgn3]; unfold sgnN; repeat' split
                                    all_goals omega
  have e3 : sgn [a, b, c, 122] = 0 := by rw [sgn4, n122]; unfold sgnN; repeat' split
                                         all_goals omega
  have e4 : sgn [b, c, 122] = 0 := by rw [sgn3, n122]; unfold sgnN; repeat' split
                                      all_goals omega
  have e5 : sgn [c, 122] = 0 := by rw [sgn2, n122]; unfold sgnN; repeat' split
                                   all_goals omega
  refine ⟨⟨by simp, e1⟩, mayL_bad _ (by simp) e2, ?_⟩
  rw [normL_bad _ (by simp) e3]
  show (fffd ++ normL [b, c, 122]).length = 10
  rw [normL_bad _ (by simp) e4]
  show (fffd ++ (fffd ++ normL [c, 122])).length = 10
  rw [normL_bad _ (by simp) e5]
  have : normL (List.drop 1 [c, 122]) = [122] := by show normL [122] = _; decide
  rw [this]; rfl

end Go.Proofs.YthoneoemfkpgmaaDoor.Pl
namespace Go.Proofs.YthoneoemfkpgmaaDoor
theorem Bt.and20 (n : Int) : bits .and .i64 n 1048575 = n % 1048576 := by
  have hm : (BitVec.ofInt 64 1048575).toNat = 2 ^ 20 - 1 := by decide
  have key : (BitVec.ofInt 64 n &&& BitVec.ofInt 64 1048575).toNat = (n % ((2 ^ 64 : Nat) : Int)).toNat % 2 ^ 20 := by
    rw [BitVec.toNat_and, BitVec.toNat_ofInt, hm, Nat.and_two_pow_sub_one_eq_mod]
  show IntKind.i64.wrap ((BitVec.ofInt 64 n &&& BitVec.ofInt 64 1048575).toNat : Nat) = n % 1048576
  rw [key, IntKind.wrap_i64]
  omega
theorem Bt.and6 (n : Int) : bits .and .i64 n 63 = n % 64 := by
  have hm : (BitVec.ofInt 64 63).toNat = 2 ^ 6 - 1 := by decide
  have key : (BitVec.ofInt 64 n &&& BitVec.ofInt 64 63).toNat = (n % ((2 ^ 64 : Nat) : Int)).toNat % 2 ^ 6 := by
    rw [BitVec.toNat_and, BitVec.toNat_ofInt, hm, Nat.and_two_pow_sub_one_eq_mod]
  show IntKind.i64.wrap ((BitVec.ofInt 64 n &&& BitVec.ofInt 64 63).toNat : Nat) = n % 64
  rw [key, IntKind.wrap_i64]
  omega
theorem Bt.wraps62 (n : Int) (h₀ : 0 ≤ n) (h₁ : n < 2 ^ 62) : IntKind.i64.wrap n = n := by rw [IntKind.wrap_i64]; omega
theorem Bt.or (i : Nat) (c y : Int) (hc0 : 0 ≤ c) (hc : c % 2 ^ i = 0) (hc1 : c < 256) (h0 : 0 ≤ y) (h1 : y < 2 ^ i) (h2 : y < 256) : bits .or .i64 c y = c + y := by
  exact bits_join .i64 62 (by decide) Bt.wraps62 i c y hc0 hc (by omega) h0 h1 (by omega)
end Go.Proofs.YthoneoemfkpgmaaDoor

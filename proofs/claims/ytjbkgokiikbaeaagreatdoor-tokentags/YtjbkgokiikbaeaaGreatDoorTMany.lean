/-
  PLAIN: of attributes of one name the first one counts; as many as may be are told, no more.
-/
import Derived.Test.YtjbkgokiikbaeaaGreatDoorTMn
import Derived.Lib.ItoaNum
namespace Go.Proofs.YtjbkgokiikbaeaaGreatDoor
/-- the digits of a number below 100 -/
def My.hd (i : Nat) : UInt8 := if i < 10 then UInt8.ofNat (48 + i) else UInt8.ofNat (48 + i / 10)
def My.tl (i : Nat) : List UInt8 := if i < 10 then [] else [UInt8.ofNat (48 + i % 10)]
def My.d (i : Nat) : List UInt8 := My.hd i :: My.tl i
theorem My.digits (i : Nat) (h : i < 100) : Lib.decDigits i = My.d i := by
  unfold My.d My.hd My.tl
  by_cases h1 : i < 10
  · rw [if_pos h1, if_pos h1, Lib.decDigits_one h1]
  · rw [if_neg h1, if_neg h1, Lib.decDigits_two h1 h]
def My.a (i : Nat) : ByteArray := ⟨(97 :: My.d i).toArray⟩
def My.v (i : Nat) : ByteArray := ⟨(My.d i).toArray⟩
def My.p : ByteArray := ⟨#[112]⟩
def My.one (i : Nat) : List UInt8 := (32 :: 65 :: (My.d i ++ [61])) ++ (My.hd i :: My.tl i)
def My.two (i : Nat) : List UInt8 := (32 :: 97 :: (My.d i ++ [61])) ++ (39 :: ([120] ++ [39]))
def My.seg (tw : Nat → Bool) (i : Nat) : List UInt8 := My.one i ++ (if tw i = true then My.two i else [])
def My.body (tw : Nat → Bool) : Nat → List UInt8
  | 0 => []
  | i + 1 => My.body tw i ++ My.seg tw i
def My.al : Nat → List (ByteArray × ByteArray)
  | 0 => []
  | i + 1 => if i < 32 then My.al i ++ [(My.a i, My.v i)] else My.al i
instance (c : UInt8) : Decidable (Mn.ok c) := by unfold Mn.ok; infer_instance
instance (c : UInt8) : Decidable (Mn.bareOk c) := by unfold Mn.bareOk; infer_instance
instance (al : List (ByteArray × ByteArray)) (A : ByteArray) : Decidable (Mn.fresh al A) := by unfold Mn.fresh; infer_instance
theorem My.ok : ∀ i, i < 64 → ∀ x ∈ My.d i, Mn.ok x ∧ Mn.bareOk x ∧ x ≠ 34 ∧ x ≠ 39 ∧ x ≠ 38 ∧ x ≠ 13 := by decide +kernel
theorem My.grow1 : ∀ i, i < 64 → Nm.grow (Ts.low 65) (My.d i) = My.a i := by decide +kernel
theorem My.grow2 : ∀ i, i < 64 → Nm.grow (Ts.low 97) (My.d i) = My.a i := by decide +kernel
theorem My.fresh : ∀ i, i < 64 → decide (Mn.fresh (My.al i) (My.a i)) = decide (i < 32) := by decide +kernel
theorem My.stale : ∀ i, i < 64 → decide (Mn.fresh (My.al (i + 1)) (My.a i)) = false := by decide +kernel
theorem My.len : ∀ i, i ≤ 64 → (My.al i).length ≤ 32 := by decide +kernel
theorem My.next (i : Nat) : Mn.al2 (My.al i) (My.a i) (My.v i) (decide (i < 32)) = My.al (i + 1) := by
  unfold Mn.al2
  rw [My.al]
  by_cases h : i < 32
  · rw [if_pos h, if_pos (decide_eq_true h)]
  · rw [if_neg h, if_neg (by rw [decide_eq_false h]; decide)]
theorem My.run (tw : Nat → Bool) (P : ByteArray) : ∀ (k : Nat) (post : List UInt8), k ≤ 64 → P = ⟨([60, 112] ++ My.body tw k ++ post).toArray⟩ →
    Mn.At P My.p (My.al k) (2 + (My.body tw k).length) (Rd.run P Rd.start 0 ([60, 112] ++ My.body tw k))
  | 0, post, _, _ => by
    have h := Mn.at3 P My.p (by kernel_rfl) 0 2 [] false
    have e : Rd.run P Rd.start 0 ([60, 112] ++ My.body tw 0) = ⟨Mn.s 3 My.p Ts.e, [], 0, 0, 0, [], false⟩ := by kernel_rfl
    rw [e]
    exact h
  | k + 1, post, hk, hP => by
    have hk' : k < 64 := by omega
    have ih := My.run tw P k (My.seg tw k ++ post) (by omega) (by rw [hP, My.body]; simp)
    have hok := My.ok k hk'
    have htk : decide (k < 32) = true ↔ Mn.fresh (My.al k) (My.a k) := by
      rw [← My.fresh k hk']
      exact decide_eq_true_iff
    have hhd := hok (My.hd k) (by simp [My.d])
    obtain ⟨j, hj⟩ : ∃ j, 2 + (My.body tw k).length = j := ⟨_, rfl⟩
    have hV : Rd.dec (P.extract (j + ((My.d k).length + 3)) (j + ((My.d k).length + 3) + ((My.tl k).length + 1))) = My.v k := by
      have e := Sg.part ([60, 112] ++ My.body tw k ++ (32 :: 65 :: (My.d k ++ [61]))) (My.d k) ((if tw k = true then My.two k else []) ++ post) (j + ((My.d k).length + 3)) (j + ((My.d k).length + 3) + ((My.tl k).length + 1)) (by rw [← hj]; simp; omega) (by rw [← hj]; simp [My.d]; omega)
      have eP : P = ⟨([60, 112] ++ My.body tw k ++ (32 :: 65 :: (My.d k ++ [61])) ++ My.d k ++ ((if tw k = true then My.two k else []) ++ post)).toArray⟩ := by
        rw [hP, My.body, My.seg, My.one]
        simp [My.d]
      rw [eP, e]
      exact Sg.decB _ (fun x hx => (hok x hx).2.2.2.2.1)
    rw [hj] at ih
    have h1 := Mn.bare ih (by kernel_rfl) 65 (My.d k) (by decide) (fun x hx => (hok x hx).1) (My.hd k) (My.tl k) hhd.2.1 hhd.2.2.1 hhd.2.2.2.1 (fun x hx => (hok x (by simp [My.d, hx])).2.1) (My.a k) (My.v k) (My.grow1 k hk') (decide (k < 32)) htk hV
    rw [My.next] at h1
    rw [My.body, My.seg]
    have hone : (My.one k).length = (My.d k).length + 3 + ((My.tl k).length + 1) := by simp [My.one]; omega
    have h1' : Mn.At P My.p (My.al (k + 1)) (j + (My.one k).length) (Rd.run P Rd.start 0 ([60, 112] ++ My.body tw k ++ My.one k)) := by
      rw [Rd.run_append, hone, ← Nat.add_assoc]
      have e : 0 + ([60, 112] ++ My.body tw k : List UInt8).length = j := by rw [← hj]; simp; omega
      rw [e]
      exact h1
    by_cases ht : tw k = true
    · rw [if_pos ht]
      have hst : false = true ↔ Mn.fresh (My.al (k + 1)) (My.a k) := by
        have := My.stale k hk'
        constructor
        · intro h; cases h
        · intro h; rw [decide_eq_true h] at this; cases this
      have h2 := Mn.quote h1' (by kernel_rfl) 97 (My.d k) (by decide) (fun x hx => (hok x hx).1) 39 (Or.inr rfl) [120] (by decide) (My.a k) _ (My.grow2 k hk') false hst rfl
      have e2 : Mn.al2 (My.al (k + 1)) (My.a k) (Rd.dec (P.extract (j + (My.one k).length + ((My.d k).length + 3) + 1) (j + (My.one k).length + ((My.d k).length + 3) + 1 + ([120] : List UInt8).length))) false = My.al (k + 1) := rfl
      rw [e2] at h2
      have e3 : j + (My.one k).length + ((My.d k).length + 3) + 1 + ([120] : List UInt8).length + 1 = 2 + (My.body tw k ++ (My.one k ++ My.two k)).length := by
        rw [← hj]
        simp [My.two]
        omega
      rw [e3] at h2
      have e4 : ([60, 112] ++ (My.body tw k ++ (My.one k ++ My.two k)) : List UInt8) = ([60, 112] ++ My.body tw k ++ My.one k) ++ My.two k := by simp
      rw [e4, Rd.run_append]
      have e5 : 0 + ([60, 112] ++ My.body tw k ++ My.one k : List UInt8).length = j + (My.one k).length := by rw [← hj]; simp; omega
      rw [e5]
      exact h2
    · rw [if_neg ht, List.append_nil]
      have e3 : 2 + (My.body tw k ++ My.one k).length = j + (My.one k).length := by rw [← hj]; simp; omega
      rw [e3, ← List.append_assoc]
      exact h1'
theorem My.no13 (tw : Nat → Bool) : ∀ (k : Nat), k ≤ 64 → ∀ x ∈ My.body tw k, x ≠ 13
  | 0, _ => by intro x hx; cases hx
  | k + 1, hk => by
    intro x hx
    have hok := My.ok k (by omega)
    simp only [My.body, My.seg, My.one, List.mem_append, List.mem_cons, List.not_mem_nil, or_false] at hx
    rcases hx with h | ((h | h | h | h) | h | h) | h
    · exact My.no13 tw k (by omega) x h
    · rw [h]; decide
    · rw [h]; decide
    · exact (hok x h).2.2.2.2.2
    · rw [h]; decide
    · exact (hok x (by rw [h]; simp [My.d])).2.2.2.2.2
    · exact (hok x (by simp [My.d, h])).2.2.2.2.2
    · split at h
      · simp only [My.two, List.mem_append, List.mem_cons, List.not_mem_nil, or_false] at h
        rcases h with (h | h | h | h) | h | h | h
        · rw [h]; decide
        · rw [h]; decide
        · exact (hok x h).2.2.2.2.2
        all_goals (rw [h]; decide)
      · cases h
theorem My.tokens (tw : Nat → Bool) (k : Nat) (hk : k ≤ 64) : Rd.tokens ⟨([60, 112] ++ My.body tw k ++ [62]).toArray⟩ = [⟨1, My.p, Ts.e, My.al k, false⟩] := by
  obtain ⟨L, hL⟩ : ∃ L, [60, 112] ++ My.body tw k ++ [62] = L := ⟨_, rfl⟩
  have hl : Rd.lines L = L := Sg.lines _ (fun c hc => by
    rw [← hL] at hc
    simp only [List.mem_append, List.mem_cons, List.not_mem_nil, or_false] at hc
    rcases hc with ((e | e) | e) | e
    · rw [e]; decide
    · rw [e]; decide
    · exact My.no13 tw k hk c e
    · rw [e]; decide)
  rw [hL]
  show Rd.done ⟨(Rd.lines L).toArray⟩ (Rd.run ⟨(Rd.lines L).toArray⟩ Rd.start 0 (Rd.lines L)) = _
  rw [hl]
  obtain ⟨P, hP⟩ : ∃ P : ByteArray, ⟨L.toArray⟩ = P := ⟨_, rfl⟩
  have hsz : P.size = 2 + (My.body tw k).length + 1 := by
    rw [← hP, ← hL]
    show (List.toArray _).size = _
    simp
    omega
  rw [hP]
  obtain ⟨v, t, hs⟩ := (My.run tw P k [62] hk (by rw [← hP, ← hL])).shut
  rw [← hL, Rd.run_append, Mn.one]
  have e : 0 + ([60, 112] ++ My.body tw k : List UInt8).length = 2 + (My.body tw k).length := by simp; omega
  rw [e, hs, Nm.over _ _ _ _ _ (by rw [hsz])]
end Go.Proofs.YtjbkgokiikbaeaaGreatDoor

/-
  WHAT THE PROGRAM's Build ANSWERS, by its three ways; the walk of stolelaw7.awake.
-/
import Derived.Test.YthfobjkdcncoiaaUProg
import Derived.Test.YthfobjkdcncoiaaULit
import Derived.Test.YthfobjkdcncoiaaUSame
namespace Go.Proofs.Ythfobjkdcncoiaa
open Go.RowKit
theorem Pg.ok (ts : List Tk) (a : Option Addr) (d : Nat) (w : World) (h : Tk.Lies w (· < w.heap.size) ts (.slice a ts.length d)) (hz : Bt.bulk ts ≤ 140737488355328) (hm : ∀ t ∈ ts, t.May) (hr : (Bt.run Bt.start ts).2 = true) :
    Calls Try.prog 9 #[.slice a ts.length d] w fun e w' => ∃ a' d', e = .returned (.tuple #[.slice a' (Bt.run Bt.start ts).1.out.length d', .int .i64 0]) ∧ Nd.Lies w' (fun k => w.heap.size ≤ k ∧ k < w'.heap.size ∧ Rm.Ub w' k) (Bt.run Bt.start ts).1.out (.slice a' (Bt.run Bt.start ts).1.out.length d') ∧ Below w.heap.size w w' := by
  refine (Pg.build ts a d w h hz).mono ?_
  rintro e w' ⟨hb, ⟨q, _⟩ | ⟨_, q, _⟩ | ⟨_, _, v, rfl, hl⟩⟩
  · exact absurd hm q
  · rw [hr] at q; cases q
  · obtain ⟨a', d', rfl, r⟩ := id hl
    exact ⟨a', d', rfl, hl, hb⟩
theorem Pg.form (ts : List Tk) (a : Option Addr) (d : Nat) (w : World) (h : Tk.Lies w (· < w.heap.size) ts (.slice a ts.length d)) (hz : Bt.bulk ts ≤ 140737488355328) (hm : ¬ ∀ t ∈ ts, t.May) :
    Calls Try.prog 9 #[.slice a ts.length d] w fun e w' => e = .returned (.tuple #[.slice none 0 0, .int .i64 700]) ∧ Below w.heap.size w w' := by
  refine (Pg.build ts a d w h hz).mono ?_
  rintro e w' ⟨hb, ⟨_, rfl⟩ | ⟨q, _⟩ | ⟨q, _⟩⟩
  · exact ⟨rfl, hb⟩
  · exact absurd q hm
  · exact absurd q hm
theorem Pg.full (ts : List Tk) (a : Option Addr) (d : Nat) (w : World) (h : Tk.Lies w (· < w.heap.size) ts (.slice a ts.length d)) (hz : Bt.bulk ts ≤ 140737488355328) (hm : ∀ t ∈ ts, t.May) (hr : (Bt.run Bt.start ts).2 = false) :
    Calls Try.prog 9 #[.slice a ts.length d] w fun e w' => e = .returned (.tuple #[.slice none 0 0, .int .i64 701]) ∧ Below w.heap.size w w' := by
  refine (Pg.build ts a d w h hz).mono ?_
  rintro e w' ⟨hb, ⟨q, _⟩ | ⟨_, _, rfl⟩ | ⟨_, q, _⟩⟩
  · exact absurd hm q
  · exact ⟨rfl, hb⟩
  · rw [hr] at q; cases q
theorem Ta.num (a : Int) (w : World) : Calls Try.prog 12 #[.int .i64 a] w fun e w' => e = .returned (.int .i64 a) ∧ w' = w := by
  go_enter Try.func12, Try.ntmps12
  go_wp2
  go_ret
  exact ⟨rfl, rfl⟩
def Ta.toks : List Tk := [⟨1, ⟨#[112]⟩, ⟨#[]⟩, [], false⟩, ⟨0, ⟨#[]⟩, ⟨#[97]⟩, [], false⟩, ⟨0, ⟨#[]⟩, ⟨#[98]⟩, [], false⟩, ⟨1, ⟨#[98, 114]⟩, ⟨#[]⟩, [], false⟩, ⟨2, ⟨#[105]⟩, ⟨#[]⟩, [], false⟩, ⟨2, ⟨#[112]⟩, ⟨#[]⟩, [], false⟩, ⟨3, ⟨#[]⟩, ⟨#[99]⟩, [], false⟩]
def Ta.want : List Nd := [⟨0, ⟨#[]⟩, ⟨#[]⟩, [], -1⟩, ⟨1, ⟨#[112]⟩, ⟨#[]⟩, [], 0⟩, ⟨2, ⟨#[]⟩, ⟨#[97, 98]⟩, [], 1⟩, ⟨1, ⟨#[98, 114]⟩, ⟨#[]⟩, [], 1⟩, ⟨3, ⟨#[]⟩, ⟨#[99]⟩, [], 0⟩]
theorem Ta.run : (Bt.run Bt.start Ta.toks).2 = true ∧ (Bt.run Bt.start Ta.toks).1.out = Ta.want := by decide +kernel
theorem Tk.may_text {k : Int} (hk : k = 0 ∨ k = 3) (x : ByteArray) : Tk.May ⟨k, Ts.e, x, [], false⟩ := .inl ⟨hk, rfl, rfl, rfl⟩
theorem Tk.may_tag {k : Int} (hk : k = 1 ∨ k = 2) {n : ByteArray} (hn : n ≠ Ts.e) : Tk.May ⟨k, n, Ts.e, [], false⟩ := .inr ⟨hk.elim .inl fun q => .inr ⟨q, rfl, rfl⟩, hn, rfl, Nat.zero_le _, fun _ _ h => absurd h (Nat.not_lt_zero _)⟩
theorem Ta.may : ∀ t ∈ Ta.toks, t.May := by
  intro t ht
  simp only [Ta.toks, List.mem_cons, List.not_mem_nil, or_false] at ht
  rcases ht with rfl | rfl | rfl | rfl | rfl | rfl | rfl
  · exact Tk.may_tag (.inl rfl) (by decide)
  · exact Tk.may_text (.inl rfl) _
  · exact Tk.may_text (.inl rfl) _
  · exact Tk.may_tag (.inl rfl) (by decide)
  · exact Tk.may_tag (.inr rfl) (by decide)
  · exact Tk.may_tag (.inr rfl) (by decide)
  · exact Tk.may_text (.inr rfl) _
theorem Ta.noTok : ¬ ∀ t ∈ ([⟨1, Ts.e, Ts.e, [], false⟩] : List Tk), t.May := fun h => by
  rcases h _ (List.mem_singleton.2 rfl) with ⟨q, _⟩ | ⟨_, q, _⟩
  · rcases q with q | q <;> cases q
  · exact q rfl
theorem Ta.build1 (w : World) : Calls Try.prog 9 #[.slice (some ⟨w.heap.size, 0, none⟩) 7 7] (w.alloc (.cells #[.int .i64 1, .string ⟨#[112]⟩, .string ⟨#[]⟩, .slice none 0 0, .bool false, .int .i64 0, .string ⟨#[]⟩, .string ⟨#[97]⟩, .slice none 0 0, .bool false, .int .i64 0, .string ⟨#[]⟩, .string ⟨#[98]⟩, .slice none 0 0, .bool false, .int .i64 1, .string ⟨#[98, 114]⟩, .string ⟨#[]⟩, .slice none 0 0, .bool false, .int .i64 2, .string ⟨#[105]⟩, .string ⟨#[]⟩, .slice none 0 0, .bool false, .int .i64 2, .string ⟨#[112]⟩, .string ⟨#[]⟩, .slice none 0 0, .bool false, .int .i64 3, .string ⟨#[]⟩, .string ⟨#[99]⟩, .slice none 0 0, .bool false] 41)) fun e w' => ∃ a' d', e = .returned (.tuple #[.slice a' 5 d', .int .i64 0]) ∧ Nd.Lies w' (fun k => w.heap.size < k ∧ k < w'.heap.size) Ta.want (.slice a' 5 d') ∧ Below w.heap.size w w' := by
  refine (Pg.ok Ta.toks (some ⟨w.heap.size, 0, none⟩) 7 _ (Tk.Lies.lit Ta.toks [.slice none 0 0, .slice none 0 0, .slice none 0 0, .slice none 0 0, .slice none 0 0, .slice none 0 0, .slice none 0 0] _ (heap_alloc_new w _) rfl (by show w.heap.size < _; simp) (by decide) ⟨Ak.Lies.nil _ _, Ak.Lies.nil _ _, Ak.Lies.nil _ _, Ak.Lies.nil _ _, Ak.Lies.nil _ _, Ak.Lies.nil _ _, Ak.Lies.nil _ _, trivial⟩) (by decide) Ta.may Ta.run.1).mono ?_
  rintro e w' ⟨a', d', rfl, hl, hb⟩
  rw [Ta.run.2] at hl ⊢
  refine ⟨a', d', rfl, hl.on fun k hk => ⟨⟨?_, hk.2.1⟩, rfl⟩, ((Below.refl _ _).alloc (Nat.le_refl _) _).trans (hb.mono (by simp))⟩
  have := hk.1
  simp at this
  omega
theorem Ta.build2 (w : World) : Calls Try.prog 9 #[.slice (some ⟨w.heap.size, 0, none⟩) 1 1] (w.alloc (.cells #[.int .i64 1, .string ⟨#[]⟩, .string ⟨#[]⟩, .slice none 0 0, .bool false] 41)) fun e w' => e = .returned (.tuple #[.slice none 0 0, .int .i64 700]) ∧ Below w.heap.size w w' := by
  refine (Pg.form [⟨1, Ts.e, Ts.e, [], false⟩] (some ⟨w.heap.size, 0, none⟩) 1 _ (Tk.Lies.lit [⟨1, Ts.e, Ts.e, [], false⟩] [.slice none 0 0] _ (heap_alloc_new w _) rfl (by show w.heap.size < _; simp) (by decide) ⟨Ak.Lies.nil _ _, trivial⟩) (by decide) Ta.noTok).mono ?_
  rintro e w' ⟨rfl, hb⟩
  exact ⟨rfl, ((Below.refl _ _).alloc (Nat.le_refl _) _).trans (hb.mono (by simp))⟩
theorem Ta.same (w1 w2 : World) (a1 : Option Addr) (d1 : Nat) {R : Nat → Prop} (l1 : Nd.Lies w1 (fun k => R k ∧ k < w1.heap.size) Ta.want (.slice a1 5 d1)) (q2 : Below w1.heap.size w1 w2) : Calls Try.prog 11 #[.slice a1 5 d1, .slice (some ⟨w2.heap.size, 0, none⟩) 5 5] (w2.alloc (.cells #[.int .i64 0, .string ⟨#[]⟩, .string ⟨#[]⟩, .slice none 0 0, .int .i64 (-1), .int .i64 1, .string ⟨#[112]⟩, .string ⟨#[]⟩, .slice none 0 0, .int .i64 0, .int .i64 2, .string ⟨#[]⟩, .string ⟨#[97, 98]⟩, .slice none 0 0, .int .i64 1, .int .i64 1, .string ⟨#[98, 114]⟩, .string ⟨#[]⟩, .slice none 0 0, .int .i64 1, .int .i64 3, .string ⟨#[]⟩, .string ⟨#[99]⟩, .slice none 0 0, .int .i64 0] 38)) fun e w' => e = .returned (.bool true) ∧ Below w2.heap.size w2 w' := by
  refine (Sa.nodes Ta.want (.slice a1 5 d1) (.slice (some ⟨w2.heap.size, 0, none⟩) 5 5) (fun _ => True) (fun _ => True) _ (l1.on fun k hk => ⟨trivial, (Below.heap_alloc _ _ _ (Nat.lt_of_lt_of_le hk.2 q2.size)).trans (q2.block k hk.2)⟩) (Nd.Lies.lit Ta.want [.slice none 0 0, .slice none 0 0, .slice none 0 0, .slice none 0 0, .slice none 0 0] _ (heap_alloc_new w2 _) rfl trivial (by decide) ⟨Ak.Lies.nil _ _, Ak.Lies.nil _ _, Ak.Lies.nil _ _, Ak.Lies.nil _ _, Ak.Lies.nil _ _, trivial⟩)).mono ?_
  rintro e w' ⟨rfl, n, rfl⟩
  exact ⟨rfl, Sa.drews ((Below.refl _ _).alloc (Nat.le_refl _) _) n⟩
set_option maxRecDepth 100000 in
set_option maxHeartbeats 4000000 in
theorem Ta.awake (w : World) : Calls Try.prog 15 #[] w fun e w' => e = .returned (.bool true) ∧ Below w.heap.size w w' := by
  have b1 := Ta.build1 w
  go_enter Try.func15, Try.ntmps15
  go_wp2_with (first | (go_at_call 9; refine b1.mono ?_; rintro e w1 ⟨a1, d1, rfl, l1, q1⟩; clear b1; have b2 := Ta.build2 w1) | (go_at_call 9; refine b2.mono ?_; rintro e w2 ⟨rfl, q2⟩; clear b2; have sm := Ta.same w1 w2 a1 d1 l1 q2; have q3 : Below w.heap.size w w2 := q1.trans (q2.mono q1.size); clear l1 q1 q2) | (go_at_call 11; refine sm.mono ?_; rintro e w3 ⟨rfl, q4⟩; clear sm; have q5 : Below w.heap.size w w3 := q3.trans (q4.mono q3.size); clear q3 q4) | (go_at_call 12; refine (Ta.num _ _).mono ?_; rintro e w' ⟨rfl, hw⟩; have hw := hw.symm; subst hw))
  go_ret
  exact ⟨rfl, q5⟩
end Go.Proofs.Ythfobjkdcncoiaa

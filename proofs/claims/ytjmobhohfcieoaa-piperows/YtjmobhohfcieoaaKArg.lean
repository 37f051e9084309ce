/-
  THE WALKS of the landed hasOnlyText, constant.
-/
import Derived.Test.YtjmobhohfcieoaaIArgs
import Derived.Test.YtjmobhohfcieoaaICmd
import Derived.Deep.RegionWith
namespace Go.Proofs.Ytjmobhohfcieoaa
open Go.RowKit
/-- has a word its Text alone? -/
def Ka.only (x : Wi) (k : Int) : Bool := decide (x.kind = k) && (x.path.isEmpty && decide (x.num = 0))
def Ka.zero : Ar := ⟨0, [], [], 0, []⟩
/-- a name that is an argument by itself -/
def Ka.const (t : List UInt8) : Ar × Bool :=
  if t = [116, 114, 117, 101] then (⟨4, [], [], 1, []⟩, true)
  else if t = [102, 97, 108, 115, 101] then (⟨4, [], [], 0, []⟩, true)
  else if t = [110, 117, 108, 108] then (⟨5, [], [], 0, []⟩, true)
  else (Ka.zero, false)
/-- the argument that a word is, by its form -/
def Ka.arg (x : Wi) : Ar × Bool :=
  if x.kind = 0 then ((Ka.const x.text).1, (Ka.const x.text).2 && Ka.only x 0)
  else if x.kind = 1 then (⟨0, [], x.path, 0, []⟩, x.text.isEmpty && decide (x.num = 0))
  else if x.kind = 2 then (⟨1, x.text, x.path, 0, []⟩, decide (x.num = 0))
  else if x.kind = 3 then (⟨2, [], [], x.num, []⟩, x.text.isEmpty && x.path.isEmpty)
  else if x.kind = 4 then (⟨3, [], [], 0, x.text⟩, Ka.only x 4)
  else (Ka.zero, false)
set_option maxHeartbeats 1000000 in
theorem Ka.hasOnly (k k2 : Int) (tx : ByteArray) (p : List (List UInt8)) (m : Int) (a : Option Addr) (d : Nat) (w : World) :
    Calls Try.prog 37 #[.agg #[.int .i64 k, .string tx, .slice a p.length d, .int .i64 m], .int .i64 k2] w fun e w' => e = .returned (.bool (Ka.only ⟨k, tx.data.toList, p, m⟩ k2)) ∧ Below w.heap.size w w' := by
  have e1 : (k == k2) = decide (k = k2) := by by_cases q : k = k2 <;> simp [q]
  have e2 := Pi.len0 p
  have e3 : (m == 0) = decide (m = 0) := by by_cases q : m = 0 <;> simp [q]
  unfold Ka.only
  simp only
  generalize decide (k = k2) = b1 at *
  generalize p.isEmpty = b2 at *
  generalize decide (m = 0) = b3 at *
  cases b1 with
  | false =>
    go_enter Try.func37, Try.ntmps37
    go_wp2_with fail
    go_ret
    exact ⟨rfl, Pr.boxed _ _⟩
  | true =>
    cases b2 with
    | false =>
      go_enter Try.func37, Try.ntmps37
      go_wp2_with fail
      go_ret
      exact ⟨rfl, Pr.boxed _ _⟩
    | true =>
      cases b3 with
      | false =>
        go_enter Try.func37, Try.ntmps37
        go_wp2_with fail
        go_ret
        exact ⟨rfl, Pr.boxed _ _⟩
      | true =>
        go_enter Try.func37, Try.ntmps37
        go_wp2_with fail
        go_ret
        exact ⟨rfl, Pr.boxed _ _⟩
/-- an argument without a path, as a value -/
abbrev Ka.val (x : Ar) : Value := .agg #[.int .i64 x.kind, .string ⟨x.name.toArray⟩, .slice none 0 0, .int .i64 x.num, .string ⟨x.text.toArray⟩]
set_option maxHeartbeats 1000000 in
theorem Ka.constant (tx : ByteArray) (w : World) :
    Calls Try.prog 43 #[.string tx] w fun e w' => e = .returned (.tuple #[Ka.val (Ka.const tx.data.toList).1, .bool (Ka.const tx.data.toList).2]) ∧ Below w.heap.size w w' := by
  have eq1 := fun l => Pi.beq_list tx l
  unfold Ka.const
  by_cases e1 : tx.data.toList = [116, 114, 117, 101]
  · have q1 := (eq1 _).trans (decide_eq_true e1)
    rw [if_pos e1]
    clear eq1 e1
    go_enter Try.func43, Try.ntmps43
    go_wp2_with fail
    refine bodyPost_ret (v := .tuple #[Ka.val ⟨4, [], [], 1, []⟩, .bool true]) (by simp [results, Try.results43, go_sem]) rfl ?_
    exact ⟨rfl, by first | exact Pr.boxed _ _ | exact Pr.boxed2 _ _ _⟩
  · have q1 := (eq1 _).trans (decide_eq_false e1)
    rw [if_neg e1]
    by_cases e2 : tx.data.toList = [102, 97, 108, 115, 101]
    · have q2 := (eq1 _).trans (decide_eq_true e2)
      rw [if_pos e2]
      clear eq1 e1 e2
      go_enter Try.func43, Try.ntmps43
      go_wp2_with fail
      refine bodyPost_ret (v := .tuple #[Ka.val ⟨4, [], [], 0, []⟩, .bool true]) (by simp [results, Try.results43, go_sem]) rfl ?_
      exact ⟨rfl, by first | exact Pr.boxed _ _ | exact Pr.boxed2 _ _ _⟩
    · have q2 := (eq1 _).trans (decide_eq_false e2)
      rw [if_neg e2]
      by_cases e3 : tx.data.toList = [110, 117, 108, 108]
      · have q3 := (eq1 _).trans (decide_eq_true e3)
        rw [if_pos e3]
        clear eq1 e1 e2 e3
        go_enter Try.func43, Try.ntmps43
        go_wp2_with fail
        refine bodyPost_ret (v := .tuple #[Ka.val ⟨5, [], [], 0, []⟩, .bool true]) (by simp [results, Try.results43, go_sem]) rfl ?_
        exact ⟨rfl, by first | exact Pr.boxed _ _ | exact Pr.boxed2 _ _ _⟩
      · have q3 := (eq1 _).trans (decide_eq_false e3)
        rw [if_neg e3]
        clear eq1 e1 e2 e3
        go_enter Try.func43, Try.ntmps43
        go_wp2_with fail
        refine bodyPost_ret (v := .tuple #[Ka.val Ka.zero, .bool false]) (by simp [results, Try.results43, go_sem, Ka.zero]) rfl ?_
        exact ⟨rfl, by first | exact Pr.boxed _ _ | exact Pr.boxed2 _ _ _⟩
end Go.Proofs.Ytjmobhohfcieoaa

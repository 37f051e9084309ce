/-
  THE NAMES THAT ARE KNOWN, plain; the walks of known.Kind, elem.Kind, elem.Attr, the reference's Elem and AttrKind, and the law's awake.
-/
import Derived.Test.YteljmbccapcecaaChecked
import Derived.WalkKit
import Derived.BigQuiet
import Derived.BigCall
import Derived.Lib.Hide
import Derived.Laws.IdiomStrings
namespace Go.Proofs.Yteljmbccapcecaa
open Go.RowKit
def En.kind (n : ByteArray) : Int :=
  let l := n.toList
  if l = [98, 114] ∨ l = [105, 109, 103] ∨ l = [105, 110, 112, 117, 116] ∨ l = [104, 114] ∨ l = [109, 101, 116, 97] ∨ l = [108, 105, 110, 107] then 1 else if l = [116, 105, 116, 108, 101] ∨ l = [116, 101, 120, 116, 97, 114, 101, 97] then 2 else if l = [115, 99, 114, 105, 112, 116] then 3 else if l = [115, 116, 121, 108, 101] then 4 else 0
/-- which of the attributes a name is -/
def En.attr (n : ByteArray) : Int :=
  let l := n.toList
  if l = [104, 114, 101, 102] ∨ l = [115, 114, 99] ∨ l = [97, 99, 116, 105, 111, 110] ∨ l = [102, 111, 114, 109, 97, 99, 116, 105, 111, 110] ∨ l = [99, 105, 116, 101] then 1 else if l = [115, 116, 121, 108, 101] then 3 else if 2 < n.size ∧ (n.extract 0 2).toList = [111, 110] then 2 else 0
theorem En.known (n : ByteArray) (w : World) : Calls Try.prog 11 #[.string n] w fun e w' => e = .returned (.int .i64 (En.kind n)) ∧ w' = w := by
  have hk : ∀ v : Int, En.kind n = v → Ending.returned (.int .i64 v) = .returned (.int .i64 (En.kind n)) := fun v h => by rw [h]
  have HK := Lib.hid hk
  clear hk
  by_cases h0 : n.toList = [98, 114]
  · have t0 : (n.toList == [98, 114]) = true := by rw [h0]; rfl
    have H := Lib.hid h0
    clear h0
    go_enter Try.func11, Try.ntmps11
    go_wp2
    go_ret
    exact ⟨HK.out 1 (by unfold En.kind; rw [H.out]; rfl), rfl⟩
  by_cases h1 : n.toList = [105, 109, 103]
  · have t1 : (n.toList == [105, 109, 103]) = true := by rw [h1]; rfl
    have t0 : (n.toList == [98, 114]) = false := beq_eq_false_iff_ne.2 h0
    have H := Lib.hid h1
    clear h0 h1
    go_enter Try.func11, Try.ntmps11
    go_wp2
    go_ret
    exact ⟨HK.out 1 (by unfold En.kind; rw [H.out]; rfl), rfl⟩
  by_cases h2 : n.toList = [105, 110, 112, 117, 116]
  · have t2 : (n.toList == [105, 110, 112, 117, 116]) = true := by rw [h2]; rfl
    have t0 : (n.toList == [98, 114]) = false := beq_eq_false_iff_ne.2 h0
    have t1 : (n.toList == [105, 109, 103]) = false := beq_eq_false_iff_ne.2 h1
    have H := Lib.hid h2
    clear h0 h1 h2
    go_enter Try.func11, Try.ntmps11
    go_wp2
    go_ret
    exact ⟨HK.out 1 (by unfold En.kind; rw [H.out]; rfl), rfl⟩
  by_cases h3 : n.toList = [104, 114]
  · have t3 : (n.toList == [104, 114]) = true := by rw [h3]; rfl
    have t0 : (n.toList == [98, 114]) = false := beq_eq_false_iff_ne.2 h0
    have t1 : (n.toList == [105, 109, 103]) = false := beq_eq_false_iff_ne.2 h1
    have t2 : (n.toList == [105, 110, 112, 117, 116]) = false := beq_eq_false_iff_ne.2 h2
    have H := Lib.hid h3
    clear h0 h1 h2 h3
    go_enter Try.func11, Try.ntmps11
    go_wp2
    go_ret
    exact ⟨HK.out 1 (by unfold En.kind; rw [H.out]; rfl), rfl⟩
  by_cases h4 : n.toList = [109, 101, 116, 97]
  · have t4 : (n.toList == [109, 101, 116, 97]) = true := by rw [h4]; rfl
    have t0 : (n.toList == [98, 114]) = false := beq_eq_false_iff_ne.2 h0
    have t1 : (n.toList == [105, 109, 103]) = false := beq_eq_false_iff_ne.2 h1
    have t2 : (n.toList == [105, 110, 112, 117, 116]) = false := beq_eq_false_iff_ne.2 h2
    have t3 : (n.toList == [104, 114]) = false := beq_eq_false_iff_ne.2 h3
    have H := Lib.hid h4
    clear h0 h1 h2 h3 h4
    go_enter Try.func11, Try.ntmps11
    go_wp2
    go_ret
    exact ⟨HK.out 1 (by unfold En.kind; rw [H.out]; rfl), rfl⟩
  by_cases h5 : n.toList = [108, 105, 110, 107]
  · have t5 : (n.toList == [108, 105, 110, 107]) = true := by rw [h5]; rfl
    have t0 : (n.toList == [98, 114]) = false := beq_eq_false_iff_ne.2 h0
    have t1 : (n.toList == [105, 109, 103]) = false := beq_eq_false_iff_ne.2 h1
    have t2 : (n.toList == [105, 110, 112, 117, 116]) = false := beq_eq_false_iff_ne.2 h2
    have t3 : (n.toList == [104, 114]) = false := beq_eq_false_iff_ne.2 h3
    have t4 : (n.toList == [109, 101, 116, 97]) = false := beq_eq_false_iff_ne.2 h4
    have H := Lib.hid h5
    clear h0 h1 h2 h3 h4 h5
    go_enter Try.func11, Try.ntmps11
    go_wp2
    go_ret
    exact ⟨HK.out 1 (by unfold En.kind; rw [H.out]; rfl), rfl⟩
  by_cases h6 : n.toList = [116, 105, 116, 108, 101]
  · have t6 : (n.toList == [116, 105, 116, 108, 101]) = true := by rw [h6]; rfl
    have t0 : (n.toList == [98, 114]) = false := beq_eq_false_iff_ne.2 h0
    have t1 : (n.toList == [105, 109, 103]) = false := beq_eq_false_iff_ne.2 h1
    have t2 : (n.toList == [105, 110, 112, 117, 116]) = false := beq_eq_false_iff_ne.2 h2
    have t3 : (n.toList == [104, 114]) = false := beq_eq_false_iff_ne.2 h3
    have t4 : (n.toList == [109, 101, 116, 97]) = false := beq_eq_false_iff_ne.2 h4
    have t5 : (n.toList == [108, 105, 110, 107]) = false := beq_eq_false_iff_ne.2 h5
    have H := Lib.hid h6
    clear h0 h1 h2 h3 h4 h5 h6
    go_enter Try.func11, Try.ntmps11
    go_wp2
    go_ret
    exact ⟨HK.out 2 (by unfold En.kind; rw [H.out]; rfl), rfl⟩
  by_cases h7 : n.toList = [116, 101, 120, 116, 97, 114, 101, 97]
  · have t7 : (n.toList == [116, 101, 120, 116, 97, 114, 101, 97]) = true := by rw [h7]; rfl
    have t0 : (n.toList == [98, 114]) = false := beq_eq_false_iff_ne.2 h0
    have t1 : (n.toList == [105, 109, 103]) = false := beq_eq_false_iff_ne.2 h1
    have t2 : (n.toList == [105, 110, 112, 117, 116]) = false := beq_eq_false_iff_ne.2 h2
    have t3 : (n.toList == [104, 114]) = false := beq_eq_false_iff_ne.2 h3
    have t4 : (n.toList == [109, 101, 116, 97]) = false := beq_eq_false_iff_ne.2 h4
    have t5 : (n.toList == [108, 105, 110, 107]) = false := beq_eq_false_iff_ne.2 h5
    have t6 : (n.toList == [116, 105, 116, 108, 101]) = false := beq_eq_false_iff_ne.2 h6
    have H := Lib.hid h7
    clear h0 h1 h2 h3 h4 h5 h6 h7
    go_enter Try.func11, Try.ntmps11
    go_wp2
    go_ret
    exact ⟨HK.out 2 (by unfold En.kind; rw [H.out]; rfl), rfl⟩
  by_cases h8 : n.toList = [115, 99, 114, 105, 112, 116]
  · have t8 : (n.toList == [115, 99, 114, 105, 112, 116]) = true := by rw [h8]; rfl
    have t0 : (n.toList == [98, 114]) = false := beq_eq_false_iff_ne.2 h0
    have t1 : (n.toList == [105, 109, 103]) = false := beq_eq_false_iff_ne.2 h1
    have t2 : (n.toList == [105, 110, 112, 117, 116]) = false := beq_eq_false_iff_ne.2 h2
    have t3 : (n.toList == [104, 114]) = false := beq_eq_false_iff_ne.2 h3
    have t4 : (n.toList == [109, 101, 116, 97]) = false := beq_eq_false_iff_ne.2 h4
    have t5 : (n.toList == [108, 105, 110, 107]) = false := beq_eq_false_iff_ne.2 h5
    have t6 : (n.toList == [116, 105, 116, 108, 101]) = false := beq_eq_false_iff_ne.2 h6
    have t7 : (n.toList == [116, 101, 120, 116, 97, 114, 101, 97]) = false := beq_eq_false_iff_ne.2 h7
    have H := Lib.hid h8
    clear h0 h1 h2 h3 h4 h5 h6 h7 h8
    go_enter Try.func11, Try.ntmps11
    go_wp2
    go_ret
    exact ⟨HK.out 3 (by unfold En.kind; rw [H.out]; rfl), rfl⟩
  by_cases h9 : n.toList = [115, 116, 121, 108, 101]
  · have t9 : (n.toList == [115, 116, 121, 108, 101]) = true := by rw [h9]; rfl
    have t0 : (n.toList == [98, 114]) = false := beq_eq_false_iff_ne.2 h0
    have t1 : (n.toList == [105, 109, 103]) = false := beq_eq_false_iff_ne.2 h1
    have t2 : (n.toList == [105, 110, 112, 117, 116]) = false := beq_eq_false_iff_ne.2 h2
    have t3 : (n.toList == [104, 114]) = false := beq_eq_false_iff_ne.2 h3
    have t4 : (n.toList == [109, 101, 116, 97]) = false := beq_eq_false_iff_ne.2 h4
    have t5 : (n.toList == [108, 105, 110, 107]) = false := beq_eq_false_iff_ne.2 h5
    have t6 : (n.toList == [116, 105, 116, 108, 101]) = false := beq_eq_false_iff_ne.2 h6
    have t7 : (n.toList == [116, 101, 120, 116, 97, 114, 101, 97]) = false := beq_eq_false_iff_ne.2 h7
    have t8 : (n.toList == [115, 99, 114, 105, 112, 116]) = false := beq_eq_false_iff_ne.2 h8
    have H := Lib.hid h9
    clear h0 h1 h2 h3 h4 h5 h6 h7 h8 h9
    go_enter Try.func11, Try.ntmps11
    go_wp2
    go_ret
    exact ⟨HK.out 4 (by unfold En.kind; rw [H.out]; rfl), rfl⟩
  have t0 : (n.toList == [98, 114]) = false := beq_eq_false_iff_ne.2 h0
  have t1 : (n.toList == [105, 109, 103]) = false := beq_eq_false_iff_ne.2 h1
  have t2 : (n.toList == [105, 110, 112, 117, 116]) = false := beq_eq_false_iff_ne.2 h2
  have t3 : (n.toList == [104, 114]) = false := beq_eq_false_iff_ne.2 h3
  have t4 : (n.toList == [109, 101, 116, 97]) = false := beq_eq_false_iff_ne.2 h4
  have t5 : (n.toList == [108, 105, 110, 107]) = false := beq_eq_false_iff_ne.2 h5
  have t6 : (n.toList == [116, 105, 116, 108, 101]) = false := beq_eq_false_iff_ne.2 h6
  have t7 : (n.toList == [116, 101, 120, 116, 97, 114, 101, 97]) = false := beq_eq_false_iff_ne.2 h7
  have t8 : (n.toList == [115, 99, 114, 105, 112, 116]) = false := beq_eq_false_iff_ne.2 h8
  have t9 : (n.toList == [115, 116, 121, 108, 101]) = false := beq_eq_false_iff_ne.2 h9
  have H : Hid (¬ n.toList = [98, 114] ∧ ¬ n.toList = [105, 109, 103] ∧ ¬ n.toList = [105, 110, 112, 117, 116] ∧ ¬ n.toList = [104, 114] ∧ ¬ n.toList = [109, 101, 116, 97] ∧ ¬ n.toList = [108, 105, 110, 107] ∧ ¬ n.toList = [116, 105, 116, 108, 101] ∧ ¬ n.toList = [116, 101, 120, 116, 97, 114, 101, 97] ∧ ¬ n.toList = [115, 99, 114, 105, 112, 116] ∧ ¬ n.toList = [115, 116, 121, 108, 101]) := ⟨h0, h1, h2, h3, h4, h5, h6, h7, h8, h9⟩
  clear h0 h1 h2 h3 h4 h5 h6 h7 h8 h9
  go_enter Try.func11, Try.ntmps11
  go_wp2
  go_ret
  obtain ⟨k0, k1, k2, k3, k4, k5, k6, k7, k8, k9⟩ := H.out
  exact ⟨HK.out 0 (by unfold En.kind; simp only [k0, k1, k2, k3, k4, k5, k6, k7, k8, k9, or_self, if_false]), rfl⟩
theorem En.refKind (n : ByteArray) (w : World) : Calls Try.prog 6 #[.string n] w fun e w' => e = .returned (.int .i64 (En.kind n)) ∧ w' = w := by
  have hk : ∀ v : Int, En.kind n = v → Ending.returned (.int .i64 v) = .returned (.int .i64 (En.kind n)) := fun v h => by rw [h]
  have HK := Lib.hid hk
  clear hk
  by_cases h0 : n.toList = [98, 114]
  · have t0 : (n.toList == [98, 114]) = true := by rw [h0]; rfl
    have H := Lib.hid h0
    clear h0
    go_enter Try.func6, Try.ntmps6
    go_wp2
    go_ret
    exact ⟨HK.out 1 (by unfold En.kind; rw [H.out]; rfl), rfl⟩
  by_cases h1 : n.toList = [105, 109, 103]
  · have t1 : (n.toList == [105, 109, 103]) = true := by rw [h1]; rfl
    have t0 : (n.toList == [98, 114]) = false := beq_eq_false_iff_ne.2 h0
    have H := Lib.hid h1
    clear h0 h1
    go_enter Try.func6, Try.ntmps6
    go_wp2
    go_ret
    exact ⟨HK.out 1 (by unfold En.kind; rw [H.out]; rfl), rfl⟩
  by_cases h2 : n.toList = [105, 110, 112, 117, 116]
  · have t2 : (n.toList == [105, 110, 112, 117, 116]) = true := by rw [h2]; rfl
    have t0 : (n.toList == [98, 114]) = false := beq_eq_false_iff_ne.2 h0
    have t1 : (n.toList == [105, 109, 103]) = false := beq_eq_false_iff_ne.2 h1
    have H := Lib.hid h2
    clear h0 h1 h2
    go_enter Try.func6, Try.ntmps6
    go_wp2
    go_ret
    exact ⟨HK.out 1 (by unfold En.kind; rw [H.out]; rfl), rfl⟩
  by_cases h3 : n.toList = [104, 114]
  · have t3 : (n.toList == [104, 114]) = true := by rw [h3]; rfl
    have t0 : (n.toList == [98, 114]) = false := beq_eq_false_iff_ne.2 h0
    have t1 : (n.toList == [105, 109, 103]) = false := beq_eq_false_iff_ne.2 h1
    have t2 : (n.toList == [105, 110, 112, 117, 116]) = false := beq_eq_false_iff_ne.2 h2
    have H := Lib.hid h3
    clear h0 h1 h2 h3
    go_enter Try.func6, Try.ntmps6
    go_wp2
    go_ret
    exact ⟨HK.out 1 (by unfold En.kind; rw [H.out]; rfl), rfl⟩
  by_cases h4 : n.toList = [109, 101, 116, 97]
  · have t4 : (n.toList == [109, 101, 116, 97]) = true := by rw [h4]; rfl
    have t0 : (n.toList == [98, 114]) = false := beq_eq_false_iff_ne.2 h0
    have t1 : (n.toList == [105, 109, 103]) = false := beq_eq_false_iff_ne.2 h1
    have t2 : (n.toList == [105, 110, 112, 117, 116]) = false := beq_eq_false_iff_ne.2 h2
    have t3 : (n.toList == [104, 114]) = false := beq_eq_false_iff_ne.2 h3
    have H := Lib.hid h4
    clear h0 h1 h2 h3 h4
    go_enter Try.func6, Try.ntmps6
    go_wp2
    go_ret
    exact ⟨HK.out 1 (by unfold En.kind; rw [H.out]; rfl), rfl⟩
  by_cases h5 : n.toList = [108, 105, 110, 107]
  · have t5 : (n.toList == [108, 105, 110, 107]) = true := by rw [h5]; rfl
    have t0 : (n.toList == [98, 114]) = false := beq_eq_false_iff_ne.2 h0
    have t1 : (n.toList == [105, 109, 103]) = false := beq_eq_false_iff_ne.2 h1
    have t2 : (n.toList == [105, 110, 112, 117, 116]) = false := beq_eq_false_iff_ne.2 h2
    have t3 : (n.toList == [104, 114]) = false := beq_eq_false_iff_ne.2 h3
    have t4 : (n.toList == [109, 101, 116, 97]) = false := beq_eq_false_iff_ne.2 h4
    have H := Lib.hid h5
    clear h0 h1 h2 h3 h4 h5
    go_enter Try.func6, Try.ntmps6
    go_wp2
    go_ret
    exact ⟨HK.out 1 (by unfold En.kind; rw [H.out]; rfl), rfl⟩
  by_cases h6 : n.toList = [116, 105, 116, 108, 101]
  · have t6 : (n.toList == [116, 105, 116, 108, 101]) = true := by rw [h6]; rfl
    have t0 : (n.toList == [98, 114]) = false := beq_eq_false_iff_ne.2 h0
    have t1 : (n.toList == [105, 109, 103]) = false := beq_eq_false_iff_ne.2 h1
    have t2 : (n.toList == [105, 110, 112, 117, 116]) = false := beq_eq_false_iff_ne.2 h2
    have t3 : (n.toList == [104, 114]) = false := beq_eq_false_iff_ne.2 h3
    have t4 : (n.toList == [109, 101, 116, 97]) = false := beq_eq_false_iff_ne.2 h4
    have t5 : (n.toList == [108, 105, 110, 107]) = false := beq_eq_false_iff_ne.2 h5
    have H := Lib.hid h6
    clear h0 h1 h2 h3 h4 h5 h6
    go_enter Try.func6, Try.ntmps6
    go_wp2
    go_ret
    exact ⟨HK.out 2 (by unfold En.kind; rw [H.out]; rfl), rfl⟩
  by_cases h7 : n.toList = [116, 101, 120, 116, 97, 114, 101, 97]
  · have t7 : (n.toList == [116, 101, 120, 116, 97, 114, 101, 97]) = true := by rw [h7]; rfl
    have t0 : (n.toList == [98, 114]) = false := beq_eq_false_iff_ne.2 h0
    have t1 : (n.toList == [105, 109, 103]) = false := beq_eq_false_iff_ne.2 h1
    have t2 : (n.toList == [105, 110, 112, 117, 116]) = false := beq_eq_false_iff_ne.2 h2
    have t3 : (n.toList == [104, 114]) = false := beq_eq_false_iff_ne.2 h3
    have t4 : (n.toList == [109, 101, 116, 97]) = false := beq_eq_false_iff_ne.2 h4
    have t5 : (n.toList == [108, 105, 110, 107]) = false := beq_eq_false_iff_ne.2 h5
    have t6 : (n.toList == [116, 105, 116, 108, 101]) = false := beq_eq_false_iff_ne.2 h6
    have H := Lib.hid h7
    clear h0 h1 h2 h3 h4 h5 h6 h7
    go_enter Try.func6, Try.ntmps6
    go_wp2
    go_ret
    exact ⟨HK.out 2 (by unfold En.kind; rw [H.out]; rfl), rfl⟩
  by_cases h8 : n.toList = [115, 99, 114, 105, 112, 116]
  · have t8 : (n.toList == [115, 99, 114, 105, 112, 116]) = true := by rw [h8]; rfl
    have t0 : (n.toList == [98, 114]) = false := beq_eq_false_iff_ne.2 h0
    have t1 : (n.toList == [105, 109, 103]) = false := beq_eq_false_iff_ne.2 h1
    have t2 : (n.toList == [105, 110, 112, 117, 116]) = false := beq_eq_false_iff_ne.2 h2
    have t3 : (n.toList == [104, 114]) = false := beq_eq_false_iff_ne.2 h3
    have t4 : (n.toList == [109, 101, 116, 97]) = false := beq_eq_false_iff_ne.2 h4
    have t5 : (n.toList == [108, 105, 110, 107]) = false := beq_eq_false_iff_ne.2 h5
    have t6 : (n.toList == [116, 105, 116, 108, 101]) = false := beq_eq_false_iff_ne.2 h6
    have t7 : (n.toList == [116, 101, 120, 116, 97, 114, 101, 97]) = false := beq_eq_false_iff_ne.2 h7
    have H := Lib.hid h8
    clear h0 h1 h2 h3 h4 h5 h6 h7 h8
    go_enter Try.func6, Try.ntmps6
    go_wp2
    go_ret
    exact ⟨HK.out 3 (by unfold En.kind; rw [H.out]; rfl), rfl⟩
  by_cases h9 : n.toList = [115, 116, 121, 108, 101]
  · have t9 : (n.toList == [115, 116, 121, 108, 101]) = true := by rw [h9]; rfl
    have t0 : (n.toList == [98, 114]) = false := beq_eq_false_iff_ne.2 h0
    have t1 : (n.toList == [105, 109, 103]) = false := beq_eq_false_iff_ne.2 h1
    have t2 : (n.toList == [105, 110, 112, 117, 116]) = false := beq_eq_false_iff_ne.2 h2
    have t3 : (n.toList == [104, 114]) = false := beq_eq_false_iff_ne.2 h3
    have t4 : (n.toList == [109, 101, 116, 97]) = false := beq_eq_false_iff_ne.2 h4
    have t5 : (n.toList == [108, 105, 110, 107]) = false := beq_eq_false_iff_ne.2 h5
    have t6 : (n.toList == [116, 105, 116, 108, 101]) = false := beq_eq_false_iff_ne.2 h6
    have t7 : (n.toList == [116, 101, 120, 116, 97, 114, 101, 97]) = false := beq_eq_false_iff_ne.2 h7
    have t8 : (n.toList == [115, 99, 114, 105, 112, 116]) = false := beq_eq_false_iff_ne.2 h8
    have H := Lib.hid h9
    clear h0 h1 h2 h3 h4 h5 h6 h7 h8 h9
    go_enter Try.func6, Try.ntmps6
    go_wp2
    go_ret
    exact ⟨HK.out 4 (by unfold En.kind; rw [H.out]; rfl), rfl⟩
  have t0 : (n.toList == [98, 114]) = false := beq_eq_false_iff_ne.2 h0
  have t1 : (n.toList == [105, 109, 103]) = false := beq_eq_false_iff_ne.2 h1
  have t2 : (n.toList == [105, 110, 112, 117, 116]) = false := beq_eq_false_iff_ne.2 h2
  have t3 : (n.toList == [104, 114]) = false := beq_eq_false_iff_ne.2 h3
  have t4 : (n.toList == [109, 101, 116, 97]) = false := beq_eq_false_iff_ne.2 h4
  have t5 : (n.toList == [108, 105, 110, 107]) = false := beq_eq_false_iff_ne.2 h5
  have t6 : (n.toList == [116, 105, 116, 108, 101]) = false := beq_eq_false_iff_ne.2 h6
  have t7 : (n.toList == [116, 101, 120, 116, 97, 114, 101, 97]) = false := beq_eq_false_iff_ne.2 h7
  have t8 : (n.toList == [115, 99, 114, 105, 112, 116]) = false := beq_eq_false_iff_ne.2 h8
  have t9 : (n.toList == [115, 116, 121, 108, 101]) = false := beq_eq_false_iff_ne.2 h9
  have H : Hid (¬ n.toList = [98, 114] ∧ ¬ n.toList = [105, 109, 103] ∧ ¬ n.toList = [105, 110, 112, 117, 116] ∧ ¬ n.toList = [104, 114] ∧ ¬ n.toList = [109, 101, 116, 97] ∧ ¬ n.toList = [108, 105, 110, 107] ∧ ¬ n.toList = [116, 105, 116, 108, 101] ∧ ¬ n.toList = [116, 101, 120, 116, 97, 114, 101, 97] ∧ ¬ n.toList = [115, 99, 114, 105, 112, 116] ∧ ¬ n.toList = [115, 116, 121, 108, 101]) := ⟨h0, h1, h2, h3, h4, h5, h6, h7, h8, h9⟩
  clear h0 h1 h2 h3 h4 h5 h6 h7 h8 h9
  go_enter Try.func6, Try.ntmps6
  go_wp2
  go_ret
  obtain ⟨k0, k1, k2, k3, k4, k5, k6, k7, k8, k9⟩ := H.out
  exact ⟨HK.out 0 (by unfold En.kind; simp only [k0, k1, k2, k3, k4, k5, k6, k7, k8, k9, or_self, if_false]), rfl⟩
theorem En.elemKind (n : ByteArray) (w : World) : Calls Try.prog 5 #[.string n] w fun e w' => e = .returned (.int .i64 (En.kind n)) ∧ w' = w := by
  go_enter Try.func5, Try.ntmps5
  go_wp2_with (go_at_call 11; refine (En.known n _).mono ?_; rintro e w' ⟨rfl, rfl⟩)
  go_ret
  exact ⟨rfl, rfl⟩
theorem En.prefixLite (n : ByteArray) (w : World) (b : Bool) (h2 : 2 < n.size) (tp : ((n.extract 0 2).toList == [111, 110]) = b) : Calls Try.prog 13 #[.string n, .string ⟨#[111, 110]⟩] w fun e w' => e = .returned (.bool b) ∧ w' = w := by
  have d1 : decide ((2 : Int) ≤ (n.size : Int)) = true := decide_eq_true (by omega)
  cases b
  all_goals
    go_enter Try.func13, Try.ntmps13
    go_wp2
    go_ret
    exact ⟨rfl, rfl⟩
theorem En.prefix (n : ByteArray) (w : World) (b : Bool) (h2 : 2 < n.size) (tp : ((n.extract 0 2).toList == [111, 110]) = b) : Calls Try.prog 12 #[.string n, .string ⟨#[111, 110]⟩] w fun e w' => e = .returned (.bool b) ∧ w' = w := by
  go_enter Try.func12, Try.ntmps12
  go_wp2_with (go_at_call 13; refine (En.prefixLite n _ b h2 tp).mono ?_; rintro e w' ⟨rfl, rfl⟩)
  go_ret
  exact ⟨rfl, rfl⟩
theorem En.refAttr (n : ByteArray) (w : World) : Calls Try.prog 8 #[.string n] w fun e w' => e = .returned (.int .i64 (En.attr n)) ∧ w' = w := by
  have hk : ∀ v : Int, En.attr n = v → Ending.returned (.int .i64 v) = .returned (.int .i64 (En.attr n)) := fun v h => by rw [h]
  have HK := Lib.hid hk
  clear hk
  by_cases h0 : n.toList = [104, 114, 101, 102]
  · have t0 : (n.toList == [104, 114, 101, 102]) = true := by rw [h0]; rfl
    have H := Lib.hid h0
    clear h0
    go_enter Try.func8, Try.ntmps8
    go_wp2
    go_ret
    exact ⟨HK.out 1 (by unfold En.attr; rw [H.out]; rfl), rfl⟩
  by_cases h1 : n.toList = [115, 114, 99]
  · have t1 : (n.toList == [115, 114, 99]) = true := by rw [h1]; rfl
    have t0 : (n.toList == [104, 114, 101, 102]) = false := beq_eq_false_iff_ne.2 h0
    have H := Lib.hid h1
    clear h0 h1
    go_enter Try.func8, Try.ntmps8
    go_wp2
    go_ret
    exact ⟨HK.out 1 (by unfold En.attr; rw [H.out]; rfl), rfl⟩
  by_cases h2 : n.toList = [97, 99, 116, 105, 111, 110]
  · have t2 : (n.toList == [97, 99, 116, 105, 111, 110]) = true := by rw [h2]; rfl
    have t0 : (n.toList == [104, 114, 101, 102]) = false := beq_eq_false_iff_ne.2 h0
    have t1 : (n.toList == [115, 114, 99]) = false := beq_eq_false_iff_ne.2 h1
    have H := Lib.hid h2
    clear h0 h1 h2
    go_enter Try.func8, Try.ntmps8
    go_wp2
    go_ret
    exact ⟨HK.out 1 (by unfold En.attr; rw [H.out]; rfl), rfl⟩
  by_cases h3 : n.toList = [102, 111, 114, 109, 97, 99, 116, 105, 111, 110]
  · have t3 : (n.toList == [102, 111, 114, 109, 97, 99, 116, 105, 111, 110]) = true := by rw [h3]; rfl
    have t0 : (n.toList == [104, 114, 101, 102]) = false := beq_eq_false_iff_ne.2 h0
    have t1 : (n.toList == [115, 114, 99]) = false := beq_eq_false_iff_ne.2 h1
    have t2 : (n.toList == [97, 99, 116, 105, 111, 110]) = false := beq_eq_false_iff_ne.2 h2
    have H := Lib.hid h3
    clear h0 h1 h2 h3
    go_enter Try.func8, Try.ntmps8
    go_wp2
    go_ret
    exact ⟨HK.out 1 (by unfold En.attr; rw [H.out]; rfl), rfl⟩
  by_cases h4 : n.toList = [99, 105, 116, 101]
  · have t4 : (n.toList == [99, 105, 116, 101]) = true := by rw [h4]; rfl
    have t0 : (n.toList == [104, 114, 101, 102]) = false := beq_eq_false_iff_ne.2 h0
    have t1 : (n.toList == [115, 114, 99]) = false := beq_eq_false_iff_ne.2 h1
    have t2 : (n.toList == [97, 99, 116, 105, 111, 110]) = false := beq_eq_false_iff_ne.2 h2
    have t3 : (n.toList == [102, 111, 114, 109, 97, 99, 116, 105, 111, 110]) = false := beq_eq_false_iff_ne.2 h3
    have H := Lib.hid h4
    clear h0 h1 h2 h3 h4
    go_enter Try.func8, Try.ntmps8
    go_wp2
    go_ret
    exact ⟨HK.out 1 (by unfold En.attr; rw [H.out]; rfl), rfl⟩
  by_cases h5 : n.toList = [115, 116, 121, 108, 101]
  · have t5 : (n.toList == [115, 116, 121, 108, 101]) = true := by rw [h5]; rfl
    have t0 : (n.toList == [104, 114, 101, 102]) = false := beq_eq_false_iff_ne.2 h0
    have t1 : (n.toList == [115, 114, 99]) = false := beq_eq_false_iff_ne.2 h1
    have t2 : (n.toList == [97, 99, 116, 105, 111, 110]) = false := beq_eq_false_iff_ne.2 h2
    have t3 : (n.toList == [102, 111, 114, 109, 97, 99, 116, 105, 111, 110]) = false := beq_eq_false_iff_ne.2 h3
    have t4 : (n.toList == [99, 105, 116, 101]) = false := beq_eq_false_iff_ne.2 h4
    have H := Lib.hid h5
    clear h0 h1 h2 h3 h4 h5
    go_enter Try.func8, Try.ntmps8
    go_wp2
    go_ret
    exact ⟨HK.out 3 (by unfold En.attr; rw [H.out]; rfl), rfl⟩
  have t0 : (n.toList == [104, 114, 101, 102]) = false := beq_eq_false_iff_ne.2 h0
  have t1 : (n.toList == [115, 114, 99]) = false := beq_eq_false_iff_ne.2 h1
  have t2 : (n.toList == [97, 99, 116, 105, 111, 110]) = false := beq_eq_false_iff_ne.2 h2
  have t3 : (n.toList == [102, 111, 114, 109, 97, 99, 116, 105, 111, 110]) = false := beq_eq_false_iff_ne.2 h3
  have t4 : (n.toList == [99, 105, 116, 101]) = false := beq_eq_false_iff_ne.2 h4
  have t5 : (n.toList == [115, 116, 121, 108, 101]) = false := beq_eq_false_iff_ne.2 h5
  have H : Hid (¬ n.toList = [104, 114, 101, 102] ∧ ¬ n.toList = [115, 114, 99] ∧ ¬ n.toList = [97, 99, 116, 105, 111, 110] ∧ ¬ n.toList = [102, 111, 114, 109, 97, 99, 116, 105, 111, 110] ∧ ¬ n.toList = [99, 105, 116, 101] ∧ ¬ n.toList = [115, 116, 121, 108, 101]) := ⟨h0, h1, h2, h3, h4, h5⟩
  clear h0 h1 h2 h3 h4 h5
  by_cases hs : 2 < n.size
  · have d1 : decide ((2 : Int) < (n.size : Int)) = true := decide_eq_true (by omega)
    by_cases hp : (n.extract 0 2).toList = [111, 110]
    · have tp : ((n.extract 0 2).toList == [111, 110]) = true := by rw [hp]; rfl
      have HP := Lib.hid hp
      clear hp
      go_enter Try.func8, Try.ntmps8
      go_wp2
      go_ret
      obtain ⟨k0, k1, k2, k3, k4, k5⟩ := H.out
      exact ⟨HK.out 2 (by unfold En.attr; simp only [k0, k1, k2, k3, k4, k5, or_self, if_false]; exact if_pos ⟨hs, HP.out⟩), rfl⟩
    have tp : ((n.extract 0 2).toList == [111, 110]) = false := beq_eq_false_iff_ne.2 hp
    have HP := Lib.hid hp
    clear hp
    go_enter Try.func8, Try.ntmps8
    go_wp2
    go_ret
    obtain ⟨k0, k1, k2, k3, k4, k5⟩ := H.out
    exact ⟨HK.out 0 (by unfold En.attr; simp only [k0, k1, k2, k3, k4, k5, or_self, if_false]; exact if_neg fun h => HP.out h.2), rfl⟩
  have d1 : decide ((2 : Int) < (n.size : Int)) = false := decide_eq_false (by omega)
  go_enter Try.func8, Try.ntmps8
  go_wp2
  go_ret
  obtain ⟨k0, k1, k2, k3, k4, k5⟩ := H.out
  exact ⟨HK.out 0 (by unfold En.attr; simp only [k0, k1, k2, k3, k4, k5, or_self, if_false]; exact if_neg fun h => hs h.1), rfl⟩
theorem En.elemAttr (n : ByteArray) (w : World) : Calls Try.prog 7 #[.string n] w fun e w' => e = .returned (.int .i64 (En.attr n)) ∧ w' = w := by
  have hk : ∀ v : Int, En.attr n = v → Ending.returned (.int .i64 v) = .returned (.int .i64 (En.attr n)) := fun v h => by rw [h]
  have HK := Lib.hid hk
  clear hk
  by_cases h0 : n.toList = [104, 114, 101, 102]
  · have t0 : (n.toList == [104, 114, 101, 102]) = true := by rw [h0]; rfl
    have H := Lib.hid h0
    clear h0
    go_enter Try.func7, Try.ntmps7
    go_wp2
    go_ret
    exact ⟨HK.out 1 (by unfold En.attr; rw [H.out]; rfl), rfl⟩
  by_cases h1 : n.toList = [115, 114, 99]
  · have t1 : (n.toList == [115, 114, 99]) = true := by rw [h1]; rfl
    have t0 : (n.toList == [104, 114, 101, 102]) = false := beq_eq_false_iff_ne.2 h0
    have H := Lib.hid h1
    clear h0 h1
    go_enter Try.func7, Try.ntmps7
    go_wp2
    go_ret
    exact ⟨HK.out 1 (by unfold En.attr; rw [H.out]; rfl), rfl⟩
  by_cases h2 : n.toList = [97, 99, 116, 105, 111, 110]
  · have t2 : (n.toList == [97, 99, 116, 105, 111, 110]) = true := by rw [h2]; rfl
    have t0 : (n.toList == [104, 114, 101, 102]) = false := beq_eq_false_iff_ne.2 h0
    have t1 : (n.toList == [115, 114, 99]) = false := beq_eq_false_iff_ne.2 h1
    have H := Lib.hid h2
    clear h0 h1 h2
    go_enter Try.func7, Try.ntmps7
    go_wp2
    go_ret
    exact ⟨HK.out 1 (by unfold En.attr; rw [H.out]; rfl), rfl⟩
  by_cases h3 : n.toList = [102, 111, 114, 109, 97, 99, 116, 105, 111, 110]
  · have t3 : (n.toList == [102, 111, 114, 109, 97, 99, 116, 105, 111, 110]) = true := by rw [h3]; rfl
    have t0 : (n.toList == [104, 114, 101, 102]) = false := beq_eq_false_iff_ne.2 h0
    have t1 : (n.toList == [115, 114, 99]) = false := beq_eq_false_iff_ne.2 h1
    have t2 : (n.toList == [97, 99, 116, 105, 111, 110]) = false := beq_eq_false_iff_ne.2 h2
    have H := Lib.hid h3
    clear h0 h1 h2 h3
    go_enter Try.func7, Try.ntmps7
    go_wp2
    go_ret
    exact ⟨HK.out 1 (by unfold En.attr; rw [H.out]; rfl), rfl⟩
  by_cases h4 : n.toList = [99, 105, 116, 101]
  · have t4 : (n.toList == [99, 105, 116, 101]) = true := by rw [h4]; rfl
    have t0 : (n.toList == [104, 114, 101, 102]) = false := beq_eq_false_iff_ne.2 h0
    have t1 : (n.toList == [115, 114, 99]) = false := beq_eq_false_iff_ne.2 h1
    have t2 : (n.toList == [97, 99, 116, 105, 111, 110]) = false := beq_eq_false_iff_ne.2 h2
    have t3 : (n.toList == [102, 111, 114, 109, 97, 99, 116, 105, 111, 110]) = false := beq_eq_false_iff_ne.2 h3
    have H := Lib.hid h4
    clear h0 h1 h2 h3 h4
    go_enter Try.func7, Try.ntmps7
    go_wp2
    go_ret
    exact ⟨HK.out 1 (by unfold En.attr; rw [H.out]; rfl), rfl⟩
  by_cases h5 : n.toList = [115, 116, 121, 108, 101]
  · have t5 : (n.toList == [115, 116, 121, 108, 101]) = true := by rw [h5]; rfl
    have t0 : (n.toList == [104, 114, 101, 102]) = false := beq_eq_false_iff_ne.2 h0
    have t1 : (n.toList == [115, 114, 99]) = false := beq_eq_false_iff_ne.2 h1
    have t2 : (n.toList == [97, 99, 116, 105, 111, 110]) = false := beq_eq_false_iff_ne.2 h2
    have t3 : (n.toList == [102, 111, 114, 109, 97, 99, 116, 105, 111, 110]) = false := beq_eq_false_iff_ne.2 h3
    have t4 : (n.toList == [99, 105, 116, 101]) = false := beq_eq_false_iff_ne.2 h4
    have H := Lib.hid h5
    clear h0 h1 h2 h3 h4 h5
    go_enter Try.func7, Try.ntmps7
    go_wp2
    go_ret
    exact ⟨HK.out 3 (by unfold En.attr; rw [H.out]; rfl), rfl⟩
  have t0 : (n.toList == [104, 114, 101, 102]) = false := beq_eq_false_iff_ne.2 h0
  have t1 : (n.toList == [115, 114, 99]) = false := beq_eq_false_iff_ne.2 h1
  have t2 : (n.toList == [97, 99, 116, 105, 111, 110]) = false := beq_eq_false_iff_ne.2 h2
  have t3 : (n.toList == [102, 111, 114, 109, 97, 99, 116, 105, 111, 110]) = false := beq_eq_false_iff_ne.2 h3
  have t4 : (n.toList == [99, 105, 116, 101]) = false := beq_eq_false_iff_ne.2 h4
  have t5 : (n.toList == [115, 116, 121, 108, 101]) = false := beq_eq_false_iff_ne.2 h5
  have H : Hid (¬ n.toList = [104, 114, 101, 102] ∧ ¬ n.toList = [115, 114, 99] ∧ ¬ n.toList = [97, 99, 116, 105, 111, 110] ∧ ¬ n.toList = [102, 111, 114, 109, 97, 99, 116, 105, 111, 110] ∧ ¬ n.toList = [99, 105, 116, 101] ∧ ¬ n.toList = [115, 116, 121, 108, 101]) := ⟨h0, h1, h2, h3, h4, h5⟩
  clear h0 h1 h2 h3 h4 h5
  by_cases hs : 2 < n.size
  · have d1 : decide ((2 : Int) < (n.size : Int)) = true := decide_eq_true (by omega)
    by_cases hp : (n.extract 0 2).toList = [111, 110]
    · have tp : ((n.extract 0 2).toList == [111, 110]) = true := by rw [hp]; rfl
      have HP := Lib.hid hp
      clear hp
      go_enter Try.func7, Try.ntmps7
      go_wp2_with (go_at_call 12; refine (En.prefix n _ true hs tp).mono ?_; rintro e w' ⟨rfl, rfl⟩)
      go_ret
      obtain ⟨k0, k1, k2, k3, k4, k5⟩ := H.out
      exact ⟨HK.out 2 (by unfold En.attr; simp only [k0, k1, k2, k3, k4, k5, or_self, if_false]; exact if_pos ⟨hs, HP.out⟩), rfl⟩
    have tp : ((n.extract 0 2).toList == [111, 110]) = false := beq_eq_false_iff_ne.2 hp
    have HP := Lib.hid hp
    clear hp
    go_enter Try.func7, Try.ntmps7
    go_wp2_with (go_at_call 12; refine (En.prefix n _ false hs tp).mono ?_; rintro e w' ⟨rfl, rfl⟩)
    go_ret
    obtain ⟨k0, k1, k2, k3, k4, k5⟩ := H.out
    exact ⟨HK.out 0 (by unfold En.attr; simp only [k0, k1, k2, k3, k4, k5, or_self, if_false]; exact if_neg fun h => HP.out h.2), rfl⟩
  have d1 : decide ((2 : Int) < (n.size : Int)) = false := decide_eq_false (by omega)
  go_enter Try.func7, Try.ntmps7
  go_wp2
  go_ret
  obtain ⟨k0, k1, k2, k3, k4, k5⟩ := H.out
  exact ⟨HK.out 0 (by unfold En.attr; simp only [k0, k1, k2, k3, k4, k5, or_self, if_false]; exact if_neg fun h => hs h.1), rfl⟩
theorem En.num (w : World) : Calls Try.prog 10 #[.int .i64 0] w fun e w' => e = .returned (.int .i64 0) ∧ w' = w := by
  go_enter Try.func10, Try.ntmps10
  go_wp2
  go_ret
  exact ⟨rfl, rfl⟩
end Go.Proofs.Yteljmbccapcecaa

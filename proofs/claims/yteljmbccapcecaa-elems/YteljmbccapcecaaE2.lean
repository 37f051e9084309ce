/-
  THE WALK of the law's awake.
-/
import Derived.Test.YteljmbccapcecaaE1
import Derived.KernelRfl
import GoSem.Claim
namespace Go.Proofs.Yteljmbccapcecaa
open Go.RowKit
theorem En.len_data (s : ByteArray) : s.data.toList.length = s.size := by rw [Array.length_toList]; rfl
theorem En.own : ownKnob Try.prog.godebug = none := by kernel_rfl
theorem En.i64 {n : Int} (h : (Lit.int .i64 n).wf = true) : -9223372036854775808 ≤ n ∧ n ≤ 9223372036854775807 := by
  simp [Lit.wf, IntKind.min, IntKind.max, IntKind.signed, IntKind.bits] at h
  omega
set_option maxHeartbeats 4000000 in
theorem En.awake (w : World) : Calls Try.prog 9 #[] w fun e w' => e = .returned (.bool true) ∧ w' = w := by
  have k0 : En.kind ⟨#[98, 114]⟩ = 1 := by decide +kernel
  have k1 : En.kind ⟨#[116, 105, 116, 108, 101]⟩ = 2 := by decide +kernel
  have k2 : En.kind ⟨#[115, 99, 114, 105, 112, 116]⟩ = 3 := by decide +kernel
  have k3 : En.kind ⟨#[115, 116, 121, 108, 101]⟩ = 4 := by decide +kernel
  have k4 : En.kind ⟨#[66, 82]⟩ = 0 := by decide +kernel
  have k5 : En.attr ⟨#[104, 114, 101, 102]⟩ = 1 := by decide +kernel
  have k6 : En.attr ⟨#[111, 110, 120]⟩ = 2 := by decide +kernel
  have k7 : En.attr ⟨#[111, 110]⟩ = 0 := by decide +kernel
  have k8 : En.attr ⟨#[115, 116, 121, 108, 101]⟩ = 3 := by decide +kernel
  go_enter Try.func9, Try.ntmps9
  go_wp2_with (first | (go_at_call 10; refine (En.num _).mono ?_; rintro e w' ⟨rfl, rfl⟩) | (go_at_call 5; refine (En.elemKind _ _).mono ?_; rintro e w' ⟨rfl, rfl⟩; simp only [k0, k1, k2, k3, k4]) | (go_at_call 7; refine (En.elemAttr _ _).mono ?_; rintro e w' ⟨rfl, rfl⟩; simp only [k5, k6, k7, k8]))
  go_ret
  exact ⟨rfl, rfl⟩
end Go.Proofs.Yteljmbccapcecaa

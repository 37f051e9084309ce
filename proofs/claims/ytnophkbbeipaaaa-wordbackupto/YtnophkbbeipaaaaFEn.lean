/-
  Small things of the rows.
-/
import Derived.Test.YtnophkbbeipaaaaProg
import Derived.KernelRfl
import GoSem.Claim
namespace Go.Proofs.Ytnophkbbeipaaaa
theorem En.len_data (s : ByteArray) : s.data.toList.length = s.size := by rw [Array.length_toList]; rfl
theorem En.own : ownKnob Try.prog.godebug = none := by kernel_rfl
theorem En.i64 {n : Int} (h : (Lit.int .i64 n).wf = true) : -9223372036854775808 ≤ n ∧ n ≤ 9223372036854775807 := by
  simp [Lit.wf, IntKind.min, IntKind.max, IntKind.signed, IntKind.bits] at h
  omega
end Go.Proofs.Ytnophkbbeipaaaa

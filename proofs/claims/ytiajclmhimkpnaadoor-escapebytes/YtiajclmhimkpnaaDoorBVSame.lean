/-
  THE WALKS of the law's own SameValue, Num, num, text, bits.
-/
import Derived.Test.YtiajclmhimkpnaaDoorBVLesstoVAlike
import Derived.BigCall
import Derived.Deep.RegionWith
namespace Go.Proofs.YtiajclmhimkpnaaDoor
open Go.RowKit

/-- the same in all its fields -/
def Vt.eq : Vt → Vt → Bool
  | .nil, _ => false
  | .mk .., .nil => false
  | .mk k x b s n it m ks, .mk k' x' b' s' n' it' m' ks' =>
    decide (k = k') && decide (x = x') && decide (b = b') && (s.toList == s'.toList) && decide (n = n') && Vt.sameKeys m m' ks ks' && Vt.allTo (fun i => (it i).eq (it' i)) n

theorem Vs.back {wr w3 : World} (h : Below wr.drew.heap.size wr.drew w3) : Below wr.heap.size wr w3 := ⟨h.os, h.tape, h.output, h.size, h.block⟩
theorem Vt.Lies.drew' {w : World} {t : Vt} {v : Value} (h : t.Lies w (· < w.heap.size) v) : t.Lies w.drew (· < w.drew.heap.size) v := Vt.Lies.on (w := w) (w' := w.drew) (R := (· < w.heap.size)) (R' := (· < w.drew.heap.size)) (fun _ hg => ⟨hg, rfl⟩) h

end Go.Proofs.YtiajclmhimkpnaaDoor

/-
  THE WALK of the reference's token, whole.
-/
import Derived.Test.YthfobjkdcncoiaaUTk0
import Derived.Test.YthfobjkdcncoiaaUTk1
import Derived.Test.YthfobjkdcncoiaaUTk2
import Derived.Test.YthfobjkdcncoiaaUTk3
namespace Go.Proofs.Ythfobjkdcncoiaa
open Go.RowKit
theorem Um.token (base : Nat) (m : Bt) (t : Tk) (aa : Option Addr) (an ad : Nat) (w : World) (g : Nat) (ov pv : Value) (h : Um.At base w g m ov pv) (hok : Bt.Ok m) (hs : m.out.length ≤ 1000000) (hm : t.May) (hat : Ak.Lies w (· < base) t.attrs (.slice aa an ad)) (hbs : base ≤ w.heap.size) (hz : (m.nth m.last).text.size + t.text.size ≤ 9223372036854775807) :
    Calls Try.prog 23 #[.pointer (some ⟨g, 0, none⟩), .agg #[.int .i64 t.kind, .string t.name, .string t.text, .slice aa an ad, .bool t.self]] w fun e w' => e = .returned (.tuple #[]) ∧ ∃ ov' pv', Um.At base w' g (m.token t) ov' pv' ∧ Um.Kept w w' g ov pv ov' pv' := by
  rcases hm with ⟨hk | hk, hm⟩ | ⟨hk | hk, hm⟩
  · exact Um.token0 base m t aa an ad w g ov pv h hok hs hk hz
  · exact Um.token3 base m t aa an ad w g ov pv h hok hs hk
  · exact Um.token1 base m t aa an ad w g ov pv h hok hs hk hat hbs hm.2.2.1
  · exact Um.token2 base m t aa an ad w g ov pv h hok hs hk.1
end Go.Proofs.Ythfobjkdcncoiaa

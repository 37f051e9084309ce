/-
  WHAT THE THREE FUNCTIONS ANSWER, where the answer has a name; the walk of stolelaw9.awake.
-/
import Derived.Test.YtfjhbhddfpkebaaDoorQProg
namespace Go.Proofs.YtfjhbhddfpkebaaDoor
open Go.RowKit
abbrev Ut (w : World) : Prop := Lib.Utf8Tabs 1 2 w
theorem Wk.ext {a b : ByteArray} (h : a.data.toList = b.data.toList) : a = b := ByteArray.ext (Array.toList_inj.1 h)
theorem Wk.cat2_data (s t : ByteArray) : (s ++ t).data.toList = s.data.toList ++ t.data.toList := by
  rw [ByteArray.data_append, Array.toList_append]
theorem Wk.cat2_size (s t : ByteArray) : (s ++ t).size = s.size + t.size := by
  rw [← Wk.len_data, Wk.cat2_data, List.length_append, Wk.len_data, Wk.len_data]
theorem Wk.size_le {x : ByteArray} {l : List UInt8} {n : Nat} (h : l = x.data.toList) (hl : l.length ≤ n) : x.size ≤ n := by
  rw [← Wk.len_data, ← h]; exact hl
theorem Up.some {s t : ByteArray} (h : Ug.scheme s.data.toList = some t.data.toList) (w : World) (hs : s.size ≤ 1099511627776) :
    Calls Tryd.prog 9 #[.string s] w fun e w' => e = .returned (.tuple #[.string t, .bool true]) ∧ Below w.heap.size w w' := by
  have c := Up.scheme s w hs
  rw [h] at c
  exact c
theorem Up.none {s : ByteArray} (h : Ug.scheme s.data.toList = none) (w : World) (hs : s.size ≤ 1099511627776) :
    Calls Tryd.prog 9 #[.string s] w fun e w' => e = .returned (.tuple #[.string ⟨#[]⟩, .bool false]) ∧ Below w.heap.size w w' := by
  have c := Up.scheme s w hs
  rw [h] at c
  exact c
theorem Up.start_to {s t : ByteArray} (h : Ug.start s.data.toList = t.data.toList) (w : World) (hT : Ut w) (hs : s.size ≤ 274877906944) :
    Calls Tryd.prog 11 #[.string s] w fun e w' => e = .returned (.string t) ∧ Below w.heap.size w w' := by
  have c := Up.start s w hT hs
  rw [h] at c
  exact c
theorem Up.part_to {s t : ByteArray} (h : Ug.part s.data.toList = t.data.toList) (w : World) (hT : Ut w) (hs : s.size ≤ 274877906944) :
    Calls Tryd.prog 13 #[.string s] w fun e w' => e = .returned (.string t) ∧ Below w.heap.size w w' := by
  have c := Up.part s w hT hs
  rw [h] at c
  exact c
theorem Ug.start_len (l : List UInt8) : (Ug.start l).length ≤ 9 * l.length + 9 := by
  have h1 := (Ug.pct_len Ug.more (Pl.normL l)).2
  have h2 := Pl.norm_short l
  unfold Ug.start
  split
  · split
    · omega
    · show 9 ≤ _
      omega
  · omega
theorem Ug.part_len (l : List UInt8) : (Ug.part l).length ≤ 9 * l.length := by
  have h1 := (Ug.pct_len Ug.plain (Pl.normL l)).2
  have h2 := Pl.norm_short l
  unfold Ug.part
  omega
theorem Wk.ex_start (s : ByteArray) : ∃ y : ByteArray, Hid (Ug.start s.data.toList = y.data.toList) ∧ y.size ≤ 9 * s.size + 9 :=
  ⟨⟨(Ug.start s.data.toList).toArray⟩, rfl, by have := Ug.start_len s.data.toList; rw [Wk.len_data] at this; exact Wk.size_le rfl this⟩
theorem Wk.ex_part (s : ByteArray) : ∃ y : ByteArray, Hid (Ug.part s.data.toList = y.data.toList) ∧ y.size ≤ 9 * s.size :=
  ⟨⟨(Ug.part s.data.toList).toArray⟩, rfl, by have := Ug.part_len s.data.toList; rw [Wk.len_data] at this; exact Wk.size_le rfl this⟩
set_option maxRecDepth 100000 in
set_option maxHeartbeats 2000000 in
theorem Ua.awake (w : World) (hT : Ut w) : Calls Tryd.prog 15 #[] w fun e w' => e = .returned (.bool true) ∧ Below w.heap.size w w' := by
  have s1 : Ug.scheme (⟨#[32, 74, 97, 118, 97, 9, 83, 99, 114, 105, 112, 116, 58, 120]⟩ : ByteArray).data.toList = some (⟨#[106, 97, 118, 97, 115, 99, 114, 105, 112, 116]⟩ : ByteArray).data.toList := by decide +kernel
  have s2 : Ug.scheme (⟨#[97, 47, 98, 58, 99]⟩ : ByteArray).data.toList = none := by decide +kernel
  have s3 : Ug.start (⟨#[106, 97, 118, 97, 115, 99, 114, 105, 112, 116, 58, 120]⟩ : ByteArray).data.toList = (⟨#[35, 90, 103, 111, 116, 109, 112, 108, 90]⟩ : ByteArray).data.toList := by decide +kernel
  have s4 : Ug.start (⟨#[72, 84, 84, 80, 58, 47, 47, 97, 32, 98]⟩ : ByteArray).data.toList = (⟨#[72, 84, 84, 80, 58, 47, 47, 97, 37, 50, 48, 98]⟩ : ByteArray).data.toList := by decide +kernel
  have s5 : Ug.part (⟨#[97, 47, 98, 195, 169]⟩ : ByteArray).data.toList = (⟨#[97, 37, 50, 70, 98, 37, 67, 51, 37, 65, 57]⟩ : ByteArray).data.toList := by decide +kernel
  have c1 := fun u => Up.some s1 u (by decide)
  have c2 := fun u => Up.none s2 u (by decide)
  have c3 := fun u hT => Up.start_to s3 u hT (by decide)
  have c4 := fun u hT => Up.start_to s4 u hT (by decide)
  have c5 := fun u hT => Up.part_to s5 u hT (by decide)
  clear s1 s2 s3 s4 s5
  go_enter Tryd.func15, Tryd.ntmps15
  go_wp2_with fail
  refine (c1 w).mono ?_
  rintro e w1 ⟨rfl, b1⟩
  have t1 := Utf8Tabs_below hT b1
  go_wp2_with fail
  refine (c2 w1).mono ?_
  rintro e w2 ⟨rfl, b2⟩
  have t2 := Utf8Tabs_below t1 b2
  have b2' := Wk.below_step b1 b2
  clear b1 b2 t1
  go_wp2_with fail
  refine (c3 w2 t2).mono ?_
  rintro e w3 ⟨rfl, b3⟩
  have t3 := Utf8Tabs_below t2 b3
  have b3' := Wk.below_step b2' b3
  clear b2' b3 t2
  go_wp2_with fail
  refine (c4 w3 t3).mono ?_
  rintro e w4 ⟨rfl, b4⟩
  have t4 := Utf8Tabs_below t3 b4
  have b4' := Wk.below_step b3' b4
  clear b3' b4 t3
  go_wp2_with fail
  refine (c5 w4 t4).mono ?_
  rintro e w5 ⟨rfl, b5⟩
  have b5' := Wk.below_step b4' b5
  clear b4' b5 t4 c1 c2 c3 c4 c5
  go_wp2_with fail
  refine (Wk.num w5).mono ?_
  rintro e w6 ⟨rfl, rfl⟩
  go_wp2
  go_ret
  exact ⟨rfl, b5'⟩
end Go.Proofs.YtfjhbhddfpkebaaDoor

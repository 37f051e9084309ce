/-
  The library's contracts that the walks of words lean on, laid at this program's own numbers: strings.Builder's WriteByte and String, strings.HasPrefix, strings.Clone.
-/
import Derived.Shelf.Strings.Builder2
import Derived.Shelf.Strings.BuilderK
import Derived.Shelf.Strings.BuilderF
import Derived.Shelf.Strings.Prefix
import Derived.Shelf.Strconv.Clone
import Derived.Test.YtjppobeomocgbaaGreatDoorTLLibtoKCopy
import Derived.Test.YtjppobeomocgbaaGreatDoorTOTexttoOPath
import Derived.Deep.QuietTactic
import Derived.Deep.RegionWith
import Derived.Test.YtjppobeomocgbaaGreatDoorTOMemtoOWords
import Derived.Test.YtjppobeomocgbaaGreatDoorTKNames
namespace Go.Proofs.YtjppobeomocgbaaGreatDoor
open Go.Shelf
def Sh.lays169_ren : Go.Shelf.Ren := ⟨fun | 169 => 100 | n => n, fun | 70 => 153 | 9 => 9 | 0 => 0 | 72 => 155 | 37 => 70 | 127 => 173 | 3 => 3 | 5 => 5 | n => n, fun | n => n⟩
theorem Sh.lays169 : Go.Proofs.Lays.n169 Tryz.prog Sh.lays169_ren := {
  mixed := by kernel_rfl
  f169 := Tryz.func100.trans (congrArg some (by kernel_rfl))
  t0 := Tryz.underlying0
  a0 := Tryz.isAgg0
  z0 := Tryz.sizeOf0
  v0 := Tryz.zeroValue0
  t3 := Tryz.underlying3
  a3 := Tryz.isAgg3
  z3 := Tryz.sizeOf3
  v3 := Tryz.zeroValue3
  t9 := Tryz.underlying9
  a9 := Tryz.isAgg9
  z9 := Tryz.sizeOf9
  v9 := Tryz.zeroValue9
  t37 := Tryz.underlying70
  a37 := Tryz.isAgg70
  z37 := Tryz.sizeOf70
  v37 := Tryz.zeroValue70
  t70 := Tryz.underlying153
  a70 := Tryz.isAgg153
  z70 := Tryz.sizeOf153
  v70 := Tryz.zeroValue153
  t72 := Tryz.underlying155
  a72 := Tryz.isAgg155
  z72 := Tryz.sizeOf155
  v72 := Tryz.zeroValue155
  t127 := Tryz.underlying173
  a127 := Tryz.isAgg173
  z127 := Tryz.sizeOf173
  v127 := Tryz.zeroValue173 }
theorem Sh.Builder_Extra_169 : Builder.Extra Tryz.prog Sh.lays169_ren := {
  sizeBuilder := by kernel_rfl
  liesBuilder := by kernel_rfl
  t5 := Tryz.underlying5
  a5 := Tryz.isAgg5
  z5 := Tryz.sizeOf5
  v5 := Tryz.zeroValue5
  infoByte := by kernel_rfl
  cellsByte := by kernel_rfl
  sizeByte := by kernel_rfl
  neB5 := by decide }
open Go.RowKit in
theorem Sh.Builder_String_any_k (B b : Nat) (l : List UInt8) (w : World) (h : Lib.IsBuilderF 155 5 B b (Lib.byteCells l) w) (hBw : B ≤ w.heap.size) :
    Calls Tryz.prog 100 #[.pointer (some ⟨b, 0, none⟩)] w fun e w' => e = .returned (.string ⟨l.toArray⟩) ∧ (Lib.IsBuilderF 155 5 B b (Lib.byteCells l) w' ∧ Below B w w' ∧ Lib.OthersKept 5 (some b) w w') := Any.Builder_String_any_k Sh.lays169 Sh.Builder_Extra_169 B b l w h hBw
def Sh.lays167_ren : Go.Shelf.Ren := ⟨fun | 167 => 154 | 240 => 124 | 276 => 144 | n => n, fun | 70 => 153 | 3 => 3 | 0 => 0 | 4 => 4 | 9 => 9 | 20 => 20 | 72 => 155 | 37 => 70 | 164 => 182 | 5 => 5 | 75 => 157 | 80 => 126 | n => n, fun | n => n⟩
theorem Sh.lays167 : Go.Proofs.Lays.n167 Tryz.prog Sh.lays167_ren := {
  mixed := by kernel_rfl
  f167 := Tryz.func154.trans (congrArg some (by kernel_rfl))
  f240 := Tryz.func124.trans (congrArg some (by kernel_rfl))
  f276 := Tryz.func144.trans (congrArg some (by kernel_rfl))
  t0 := Tryz.underlying0
  a0 := Tryz.isAgg0
  z0 := Tryz.sizeOf0
  v0 := Tryz.zeroValue0
  t4 := Tryz.underlying4
  a4 := Tryz.isAgg4
  z4 := Tryz.sizeOf4
  v4 := Tryz.zeroValue4
  t5 := Tryz.underlying5
  a5 := Tryz.isAgg5
  z5 := Tryz.sizeOf5
  v5 := Tryz.zeroValue5
  t9 := Tryz.underlying9
  a9 := Tryz.isAgg9
  z9 := Tryz.sizeOf9
  v9 := Tryz.zeroValue9
  t20 := Tryz.underlying20
  a20 := Tryz.isAgg20
  z20 := Tryz.sizeOf20
  v20 := Tryz.zeroValue20
  t37 := Tryz.underlying70
  a37 := Tryz.isAgg70
  z37 := Tryz.sizeOf70
  v37 := Tryz.zeroValue70
  t70 := Tryz.underlying153
  a70 := Tryz.isAgg153
  z70 := Tryz.sizeOf153
  v70 := Tryz.zeroValue153
  t72 := Tryz.underlying155
  a72 := Tryz.isAgg155
  z72 := Tryz.sizeOf155
  v72 := Tryz.zeroValue155
  t75 := Tryz.underlying157
  a75 := Tryz.isAgg157
  z75 := Tryz.sizeOf157
  v75 := Tryz.zeroValue157
  t164 := Tryz.underlying182
  a164 := Tryz.isAgg182
  z164 := Tryz.sizeOf182
  v164 := Tryz.zeroValue182 }
theorem Sh.Builder_Extra_167 : Builder.Extra Tryz.prog Sh.lays167_ren := {
  sizeBuilder := by kernel_rfl
  liesBuilder := by kernel_rfl
  t5 := Tryz.underlying5
  a5 := Tryz.isAgg5
  z5 := Tryz.sizeOf5
  v5 := Tryz.zeroValue5
  infoByte := by kernel_rfl
  cellsByte := by kernel_rfl
  sizeByte := by kernel_rfl
  neB5 := by decide }
open Go.RowKit in
theorem Sh.Builder_WriteByte_k (B b : Nat) (bs : List Value) (c : Int) (w : World) (h : Lib.IsBuilderF 155 5 B b bs w) (hlen : bs.length + 1 ≤ 140737488355328) (hBw : B ≤ w.heap.size) :
    Calls Tryz.prog 154 #[.pointer (some ⟨b, 0, none⟩), .int .u8 c] w fun e w' => e = .returned .nilIface ∧ (Lib.BuilderAtF 155 5 B b (.pointer (some ⟨b, 0, none⟩)) (bs ++ [.int .u8 c]) w' ∧ Below B w w' ∧ Lib.OthersKept 5 (some b) w w') := Any.Builder_WriteByte_k Sh.lays167 Sh.Builder_Extra_167 B b bs c w h hlen hBw
end Go.Proofs.YtjppobeomocgbaaGreatDoor
/-
  THE LANDED READER in memory; the walks of isOver, peek, isBlank, isDigit, isNameByte, mayEnd, skipBlanks, skip, take.
-/
namespace Go.Proofs.YtjppobeomocgbaaGreatDoor
open Go.RowKit
/-- what the reader throws -/
def Xr.fault (x : Int) : List PanicEntry := [{ v := .iface 23 (.int .i64 x), recovered := false }]
/-- the reader lies in block g, at place i; all but that block is as it was in w0 -/
structure Xr.At (w0 w : World) (g : Nat) (s : ByteArray) (i : Nat) : Prop where
  box : Bs.Box w g #[.string s, .int .i64 (i : Int)] 108
  kept : Cu.Kept w0 w g
  le : i ≤ s.size
section
variable {w0 w w' : World} {g : Nat} {s : ByteArray} {i : Nat}
theorem Xr.At.c0 (h : Xr.At w0 w g s i) : w.cell? ⟨g, 0, none⟩ = some (.string s) := Bs.Box.cell h.box 0 rfl
theorem Xr.At.c1 (h : Xr.At w0 w g s i) : w.cell? ⟨g, 1, none⟩ = some (.int .i64 (i : Int)) := Bs.Box.cell h.box 1 rfl
theorem Xr.At.fz (h : Xr.At w0 w g s i) : ∀ q, w.frozen? ⟨g, q, none⟩ = false := fun q => Bs.Box.frozen h.box q
theorem Xr.At.drewN (h : Xr.At w0 w g s i) (n : Nat) : Xr.At w0 (w.drewN n) g s i := ⟨h.box, h.kept.drewN n, h.le⟩
theorem Xr.At.set1 (h : Xr.At w0 w g s i) (j : Nat) (hj : j ≤ s.size) : Xr.At w0 (w.setCell ⟨g, 1, none⟩ (.int .i64 (j : Int))) g s j := ⟨Bs.Box.set h.box 1 _, h.kept.set _ _, hj⟩
theorem Xr.At.then (h : Xr.At w0 w g s i) (hb : Below w.heap.size w w') : Xr.At w0 w' g s i := ⟨Bs.Box.on h.box hb (Bs.Box.lt h.box), h.kept.then hb, h.le⟩
theorem Xr.At.start (h : Xr.At w0 w g s i) : Xr.At w w g s i := ⟨h.box, Cu.Kept.refl _ _, h.le⟩
theorem Xr.At.lt (h : Xr.At w0 w g s i) : g < w.heap.size := Bs.Box.lt h.box
end
theorem Xr.getD {s : ByteArray} {i : Nat} (h : i < s.size) : s.data.toList.getD i 0 = s[i] := by
  rw [List.getD_eq_getElem?_getD, List.getElem?_eq_getElem (by rw [Wk.len_data]; exact h)]
  rfl
theorem Xr.getD_end {s : ByteArray} {i : Nat} (h : s.size ≤ i) : s.data.toList.getD i 0 = 0 := by
  rw [List.getD_eq_getElem?_getD, List.getElem?_eq_none (by rw [Wk.len_data]; exact h)]
  rfl
theorem Xr.eq_dec (c d : UInt8) : ((c.toNat : Int) == (d.toNat : Int)) = (c == d) := by
  by_cases h : c = d
  · rw [h]; simp
  · rw [beq_eq_false_iff_ne.2 h, beq_eq_false_iff_ne]
    exact fun q => h (UInt8.toNat_inj.1 (by omega))
set_option maxHeartbeats 1000000 in
theorem Xr.isOver {w0 w : World} {g : Nat} {s : ByteArray} {i : Nat} (h : Xr.At w0 w g s i) :
    Calls Tryz.prog 82 #[.pointer (some ⟨g, 0, none⟩)] w fun e w' => e = .returned (.bool (decide (s.size ≤ i))) ∧ ∃ n, w' = w.drewN n := by
  have c0 := h.c0
  have c1 := h.c1
  have hle := h.le
  have d1 : ((i : Int) == (s.size : Int)) = decide (s.size ≤ i) := by
    by_cases q : s.size ≤ i
    · rw [decide_eq_true q]; exact beq_iff_eq.2 (by omega)
    · rw [decide_eq_false q]; exact beq_eq_false_iff_ne.2 (by omega)
  generalize decide (s.size ≤ i) = B at *
  clear h hle
  go_enter Tryz.func82, Tryz.ntmps82
  go_wp2_with fail
  go_quiet (fail)
  go_wp2
  go_ret
  exact ⟨rfl, _, rfl⟩
set_option maxHeartbeats 1000000 in
theorem Xr.peek {w0 w : World} {g : Nat} {s : ByteArray} {i : Nat} (h : Xr.At w0 w g s i) :
    Calls Tryz.prog 109 #[.pointer (some ⟨g, 0, none⟩)] w fun e w' => e = .returned (.int .u8 ((s.data.toList.getD i 0).toNat : Int)) ∧ ∃ n, w' = w.drewN n := by
  have ov := Xr.isOver h
  by_cases q : s.size ≤ i
  · rw [decide_eq_true q] at ov
    rw [Xr.getD_end q]
    clear h q
    go_enter Tryz.func109, Tryz.ntmps109
    go_wp2_with (go_at_call 82; refine ov.mono ?_; rintro e w1 ⟨rfl, n1, rfl⟩)
    go_ret
    exact ⟨rfl, _, rfl⟩
  · rw [decide_eq_false q] at ov
    have hlt : i < s.size := by omega
    rw [Xr.getD hlt]
    clear q
    go_enter Tryz.func109, Tryz.ntmps109
    go_wp2_with (go_at_call 82; refine ov.mono ?_; rintro e w1 ⟨rfl, n1, rfl⟩)
    have c0 := (h.drewN n1).c0
    have c1 := (h.drewN n1).c1
    have HE : Hid (∃ n, w.drewN n1 = w.drewN n) := ⟨n1, rfl⟩
    clear h
    generalize w.drewN n1 = w1 at *
    go_quiet (fail)
    go_wp2
    go_ret
    obtain ⟨n, rfl⟩ := HE.out
    exact ⟨rfl, _, World.drewN_drewN _ _ _⟩
theorem Xr.isBlank (c : UInt8) (w : World) : Calls Tryz.prog 108 #[.int .u8 (c.toNat : Int)] w fun e w' => e = .returned (.bool (Lx.blank c)) ∧ w' = w := by
  have e32 : ((c.toNat : Int) == 32) = (c == 32) := Xr.eq_dec c 32
  have e9 : ((c.toNat : Int) == 9) = (c == 9) := Xr.eq_dec c 9
  have e10 : ((c.toNat : Int) == 10) = (c == 10) := Xr.eq_dec c 10
  unfold Lx.blank
  generalize (c == 32) = b1 at *
  generalize (c == 9) = b2 at *
  generalize (c == 10) = b3 at *
  generalize c.toNat = m at *
  cases b1 <;> cases b2 <;> cases b3 <;> (go_enter Tryz.func108, Tryz.ntmps108; go_wp2_with fail; go_ret; exact ⟨rfl, rfl⟩)
theorem Xr.isDigit (c : UInt8) (w : World) : Calls Tryz.prog 131 #[.int .u8 (c.toNat : Int)] w fun e w' => e = .returned (.bool (Pl.digit c)) ∧ w' = w := by
  unfold Pl.digit
  generalize c.toNat = m
  by_cases h1 : 48 ≤ m
  · by_cases h2 : m ≤ 57
    · rw [decide_eq_true h1, decide_eq_true h2]
      go_enter Tryz.func131, Tryz.ntmps131
      go_wp2
      go_ret
      exact ⟨by first | rfl | (simp; omega), rfl⟩
    · rw [decide_eq_true h1, decide_eq_false h2]
      go_enter Tryz.func131, Tryz.ntmps131
      go_wp2
      go_ret
      exact ⟨by first | rfl | (simp; omega), rfl⟩
  · rw [decide_eq_false h1]
    go_enter Tryz.func131, Tryz.ntmps131
    go_wp2
    go_ret
    exact ⟨by first | rfl | (simp; omega), rfl⟩
theorem Xr.all {p : UInt8 → Bool} (h : (List.range 256).all (fun n => p (UInt8.ofNat n)) = true) (c : UInt8) : p c = true := by
  have := List.all_eq_true.1 h c.toNat (List.mem_range.2 c.toNat_lt)
  simpa using this
/-- may a word end at this place? -/
def Xr.fin (s : ByteArray) (i : Nat) : Bool := decide (s.size ≤ i) || Lx.blank (s.data.toList.getD i 0) || decide (s.data.toList.getD i 0 = 124)
set_option maxHeartbeats 1000000 in
theorem Xr.mayEnd {w0 w : World} {g : Nat} {s : ByteArray} {i : Nat} (h : Xr.At w0 w g s i) :
    Calls Tryz.prog 112 #[.pointer (some ⟨g, 0, none⟩)] w fun e w' => e = .returned (.bool (Xr.fin s i)) ∧ ∃ n, w' = w.drewN n := by
  have ov := Xr.isOver h
  have pk := fun n => Xr.peek (h.drewN n)
  have e124 : ((((s.data.toList.getD i 0).toNat : Nat) : Int) == 124) = decide (s.data.toList.getD i 0 = 124) := by rw [show (124 : Int) = ((124 : UInt8).toNat : Int) from rfl, Xr.eq_dec]; rfl
  have bl := fun u => Xr.isBlank (s.data.toList.getD i 0) u
  unfold Xr.fin
  clear h
  generalize decide (s.size ≤ i) = B at *
  generalize decide (s.data.toList.getD i 0 = 124) = B2 at *
  generalize Lx.blank (s.data.toList.getD i 0) = B3 at *
  generalize ((s.data.toList.getD i 0).toNat : Int) = c at *
  cases B
  · cases B3 <;> cases B2 <;> (
      go_enter Tryz.func112, Tryz.ntmps112
      go_wp2_with (first | (go_at_call 82; refine ov.mono ?_; rintro e w1 ⟨rfl, n1, rfl⟩) | (go_at_call 109; refine (pk _).mono ?_; rintro e w1 ⟨rfl, n2, rfl⟩; rw [World.drewN_drewN]) | (go_at_call 108; refine (bl _).mono ?_; rintro e w' ⟨rfl, hw⟩; have hw := hw.symm; subst hw))
      go_ret
      exact ⟨rfl, _, rfl⟩)
  · go_enter Tryz.func112, Tryz.ntmps112
    go_wp2_with (go_at_call 82; refine ov.mono ?_; rintro e w1 ⟨rfl, n1, rfl⟩)
    go_ret
    exact ⟨rfl, _, rfl⟩
theorem Xr.run_from (w : World) (s : ByteArray) (l : Int) (h0 : 0 ≤ l) (h1 : l ≤ s.size) :
    (Instr.slice 9 (.string s) (some (.int .i64 l)) none none).run Tryz.prog w = .ok (.string (s.extract l.toNat s.size)) w := by
  simp [Instr.slice, run_underlying Tryz.underlying9, Instr.sliceBounds, run_sliceBound, h0, h1]
set_option maxHeartbeats 1000000 in
theorem Xr.skip (mk : ByteArray) (b : Bool) {w0 w : World} {g : Nat} {s : ByteArray} {i : Nat} (h : Xr.At w0 w g s i) (hs : s.size ≤ 1099511627776) (hb : Lib.hasPrefix (s.data.toList.drop i) mk.data.toList = b) :
    Calls Tryz.prog 110 #[.pointer (some ⟨g, 0, none⟩), .string mk] w fun e w' => e = .returned (.bool b) ∧ Xr.At w0 w' g s (if b = true then i + mk.size else i) := by
  have hle := h.le
  have c0 := h.c0
  have c1 := h.c1
  have sl := fun u => Xr.run_from u s (i : Int) (by omega) (by omega)
  rw [Int.toNat_natCast] at sl
  have k1 := fun u => Sh.strings_HasPrefix (s.extract i s.size) mk u
  rw [Wk.rest_data, hb] at k1
  have H := Lib.hid h
  clear h
  cases b with
  | true =>
    have hz : i + mk.size ≤ s.size := by
      obtain ⟨r, e⟩ := List.isPrefixOf_iff_prefix.1 (show mk.data.toList.isPrefixOf (s.data.toList.drop i) = true from hb)
      have q := congrArg List.length e
      rw [List.length_append, List.length_drop, Wk.len_data, Wk.len_data] at q
      omega
    clear hb
    generalize s.extract i s.size = V at *
    go_enter Tryz.func110, Tryz.ntmps110
    go_wp2_with fail
    go_quiet (first | (go_at_call 71; exact Calls.quiet_of_same (k1 _)))
    have H1 := Lib.hid (H.out.drewN nq)
    clear H c0 c1
    generalize w.drewN nq = w1 at *
    have c1 := H1.out.c1
    have f := H1.out.fz
    have H3 := Lib.hid (H1.out.set1 (i + mk.size) hz)
    rw [show ((i + mk.size : Nat) : Int) = (i : Int) + (mk.size : Int) by omega] at H3
    clear H1
    go_wp2_with fail
    go_ret
    exact ⟨rfl, H3.out⟩
  | false =>
    clear hb
    generalize s.extract i s.size = V at *
    go_enter Tryz.func110, Tryz.ntmps110
    go_wp2_with fail
    go_quiet (first | (go_at_call 71; exact Calls.quiet_of_same (k1 _)))
    go_wp2
    go_ret
    exact ⟨rfl, H.out.drewN _⟩
set_option maxHeartbeats 1000000 in
theorem Xr.take {w0 w : World} {g : Nat} {s : ByteArray} {i : Nat} (h : Xr.At w0 w g s i) (hi : i < s.size) (hs : s.size ≤ 1099511627776) :
    Calls Tryz.prog 153 #[.pointer (some ⟨g, 0, none⟩)] w fun e w' => e = .returned (.int .u8 (s[i].toNat : Int)) ∧ Xr.At w0 w' g s (i + 1) := by
  have ov := Xr.isOver h
  rw [decide_eq_false (by omega)] at ov
  go_enter Tryz.func153, Tryz.ntmps153
  go_wp2_with (go_at_call 82; refine ov.mono ?_; rintro e w1 ⟨rfl, n1, rfl⟩)
  have H1 := Lib.hid (h.drewN n1)
  clear h ov
  generalize w.drewN n1 = w1 at *
  have c0 := H1.out.c0
  have c1 := H1.out.c1
  go_quiet (fail)
  have H2 := Lib.hid (H1.out.drewN nq)
  clear H1 c0 c1
  generalize w1.drewN nq = w2 at *
  have c1 := H2.out.c1
  have f := H2.out.fz
  have H3 := Lib.hid (H2.out.set1 (i + 1) hi)
  rw [show ((i + 1 : Nat) : Int) = (i : Int) + 1 by omega] at H3
  clear H2
  go_wp2_with fail
  go_ret
  exact ⟨rfl, H3.out⟩
set_option maxHeartbeats 1000000 in
theorem Xr.take_end {w0 w : World} {g : Nat} {s : ByteArray} {i : Nat} (h : Xr.At w0 w g s i) (hi : s.size ≤ i) :
    Calls Tryz.prog 153 #[.pointer (some ⟨g, 0, none⟩)] w fun e w' => e = .panicked (Xr.fault 1401) ∧ Cu.Kept w0 w' g := by
  have ov := Xr.isOver h
  rw [decide_eq_true hi] at ov
  go_enter Tryz.func153, Tryz.ntmps153
  go_wp2_with (go_at_call 82; refine ov.mono ?_; rintro e w1 ⟨rfl, n1, rfl⟩)
  exact ⟨rfl, rfl, (h.drewN n1).kept⟩
end Go.Proofs.YtjppobeomocgbaaGreatDoor
/-
  THE WALKS of the landed reader: skipBlanks, name.
-/
namespace Go.Proofs.YtjppobeomocgbaaGreatDoor
open Go.RowKit
/-- what a reading function does: it gives what it read and stands behind it, or throws -/
def Xr.Out {α : Type} (O : Option (α × Nat)) (x : Int) (V : α → Value) (w0 : World) (g : Nat) (s : ByteArray) (e : Ending) (w' : World) : Prop :=
  match O with
  | none => e = .panicked (Xr.fault x) ∧ Cu.Kept w0 w' g
  | some (a, j) => e = .returned (V a) ∧ Xr.At w0 w' g s j
def Xr.place (g : Nat) (u : World) : Nat := (intOf ((u.cell? ⟨g, 1, none⟩).getD undef)).toNat
theorem Xr.place_eq {w0 w : World} {g : Nat} {s : ByteArray} {i : Nat} (h : Xr.At w0 w g s i) : Xr.place g w = i := by
  unfold Xr.place
  rw [h.c1]
  rfl
set_option maxHeartbeats 2000000 in
theorem Xr.skipBlanks {w0 w : World} {g : Nat} {s : ByteArray} {i : Nat} (h : Xr.At w0 w g s i) (hs : s.size ≤ 1099511627776) :
    Calls Tryz.prog 81 #[.pointer (some ⟨g, 0, none⟩)] w fun e w' => e = .returned (.tuple #[]) ∧ Xr.At w0 w' g s (Lx.skip i (s.data.toList.drop i)) := by
  obtain ⟨n, hn⟩ : ∃ n, Lx.skip i (s.data.toList.drop i) = n := ⟨_, rfl⟩
  rw [hn]
  have HN := Lib.hid hn
  have H := Lib.hid h
  clear h hn
  go_enter Tryz.func81, Tryz.ntmps81
  go_wp2_with fail
  go_loopw [] (fun wr => ∃ j : Nat, Hid (Xr.At w0 wr g s j) ∧ Hid (Lx.skip j (s.data.toList.drop j) = n)) (fun wr => s.size - Xr.place g wr)
  case atStart => exact ⟨i, H, HN⟩
  case round =>
    clear H HN
    obtain ⟨j, HA, HN⟩ := hrel
    have HM := Lib.hid (Xr.place_eq HA.out)
    have pk := Xr.peek HA.out
    have bl := fun u => Xr.isBlank (s.data.toList.getD j 0) u
    cases hb : Lx.blank (s.data.toList.getD j 0) with
    | true =>
      rw [hb] at bl
      have hlt : j < s.size := by
        by_cases q : j < s.size
        · exact q
        · rw [Xr.getD_end (by omega)] at hb
          cases hb
      rw [Xr.getD hlt] at hb
      have HN2 : Hid (Lx.skip (j + 1) (s.data.toList.drop (j + 1)) = n) := by
        have := HN.out
        rw [Wx.skip_step hlt, if_pos hb] at this
        exact this
      clear hb HN
      generalize ((s.data.toList.getD j 0).toNat : Int) = c at *
      go_wp2_with (first | (go_at_call 109; refine pk.mono ?_; rintro e w1 ⟨rfl, n1, rfl⟩; have HA1 := Lib.hid (HA.out.drewN n1); clear HA pk; generalize wr.drewN n1 = w1 at *; have c1 := HA1.out.c1; have f := HA1.out.fz; have HA2 := Lib.hid (HA1.out.set1 (j + 1) hlt); rw [show ((j + 1 : Nat) : Int) = (j : Int) + 1 by omega] at HA2; clear HA1) | (go_at_call 108; refine (bl _).mono ?_; rintro e w' ⟨rfl, hw⟩; have hw := hw.symm; subst hw))
      go_roundw
      case rel => exact ⟨j + 1, HA2, HN2⟩
      case measure => rw [Xr.place_eq HA2.out, HM.out]; omega
    | false =>
      rw [hb] at bl
      have HE : Hid (j = n) := by
        have := HN.out
        unfold Hid
        by_cases q : j < s.size
        · rw [Xr.getD q] at hb
          rw [Wx.skip_step q, if_neg (by rw [hb]; decide)] at this
          exact this
        · rw [Wx.skip_end (by omega)] at this
          exact this
      clear hb HN
      generalize ((s.data.toList.getD j 0).toNat : Int) = c at *
      go_wp2_with (first | (go_at_call 109; refine pk.mono ?_; rintro e w1 ⟨rfl, n1, rfl⟩; have HA1 := Lib.hid (HA.out.drewN n1); clear HA pk; generalize wr.drewN n1 = w1 at *) | (go_at_call 108; refine (bl _).mono ?_; rintro e w' ⟨rfl, hw⟩; have hw := hw.symm; subst hw))
      go_end0
      exact ⟨rfl, by rw [← HE.out]; exact HA1.out⟩
theorem Xr.digit_no (c : UInt8) : (Pl.letter c || c == 95) = true → Pl.digit c = false := by
  have := Xr.all (p := fun c => !(Pl.letter c || c == 95) || !Pl.digit c) (by decide +kernel) c
  intro h
  rw [h] at this
  simpa using this
theorem Xr.nend_all : ∀ (l : List UInt8) (i : Nat), (l.take (Wx.nend false i l - i)).all (Wx.sign false) = true := by
  intro l
  induction l with
  | nil => intro i; rw [List.take_nil]; rfl
  | cons c l ih =>
    intro i
    unfold Wx.nend
    split
    · rename_i h
      have h2 := (Wx.nend_ge l false (i + 1)).1
      rw [show Wx.nend false (i + 1) l - i = (Wx.nend false (i + 1) l - (i + 1)) + 1 by omega, List.take_succ_cons, List.all_cons, h, ih (i + 1)]
      rfl
    · rw [Nat.sub_self]
      rfl
theorem Xr.pi_name {c : UInt8} {r : List UInt8} (h : (c :: r).all (Wx.sign false) = true) : Pi.name (c :: r) = (!Pl.digit c && decide ((c :: r).length ≤ 32)) := by
  rw [List.all_cons, Bool.and_eq_true] at h
  unfold Pi.name
  rw [show Wx.signs true (c :: r) = (Wx.sign true c && Wx.signs false r) from rfl, Kn.first_sign, Kn.signs_all, h.1, h.2]
  cases Pl.digit c <;> simp
/-- the document's name, by where the bytes of names end -/
theorem Xr.name_is {s : ByteArray} {i : Nat} (hi : i < s.size) : Wx.name s.data.toList i = if Wx.nend false i (s.data.toList.drop i) = i ∨ Pl.digit s[i] = true ∨ 32 < Wx.nend false i (s.data.toList.drop i) - i then none else some ((s.data.toList.drop i).take (Wx.nend false i (s.data.toList.drop i) - i), Wx.nend false i (s.data.toList.drop i)) := by
  unfold Wx.name
  simp only [Wx.nend_step _ hi]
  by_cases h1 : (Pl.letter s[i] || s[i] == 95) = true
  · have hd := Xr.digit_no _ h1
    have s1 : Wx.sign true s[i] = true := by unfold Wx.sign; rw [h1]; rfl
    have s2 : Wx.sign false s[i] = true := by unfold Wx.sign; rw [h1]; rfl
    rw [if_pos s1, if_pos s2, hd]
    simp
  · have s1 : Wx.sign true s[i] = false := by unfold Wx.sign; rw [Bool.eq_false_iff.2 h1]; rfl
    by_cases hd : Pl.digit s[i] = true
    · simp [s1, hd]
    · have s2 : Wx.sign false s[i] = false := by unfold Wx.sign; rw [Bool.eq_false_iff.2 h1, Bool.eq_false_iff.2 hd]; rfl
      simp [s1, s2]
theorem Xr.name_end {s : ByteArray} {i : Nat} (hi : s.size ≤ i) : Wx.name s.data.toList i = none := by
  unfold Wx.name
  rw [Wx.drop_none hi, if_pos (.inl rfl)]
set_option maxHeartbeats 4000000 in
theorem Xr.name {w0 w : World} {g : Nat} {s : ByteArray} {i : Nat} (h : Xr.At w0 w g s i) (hs : s.size ≤ 1099511627776) :
    Calls Tryz.prog 136 #[.pointer (some ⟨g, 0, none⟩)] w (Xr.Out (Wx.name s.data.toList i) 1400 (fun t => .string ⟨t.toArray⟩) w0 g s) := by
  have hi := h.le
  obtain ⟨n, hn⟩ : ∃ n, Wx.nend false i (s.data.toList.drop i) = n := ⟨_, rfl⟩
  have hnb : i ≤ n ∧ n ≤ s.size := by
    have := Wx.nend_ge (s.data.toList.drop i) false i
    rw [hn, List.length_drop, Wk.len_data] at this
    omega
  obtain ⟨hin, hns⟩ := hnb
  have HO : Hid (Wx.name s.data.toList i = if h : i < s.size then (if n = i ∨ Pl.digit s[i] = true ∨ 32 < n - i then none else some ((s.data.toList.drop i).take (n - i), n)) else none) := by
    unfold Hid
    by_cases q : i < s.size
    · rw [dif_pos q, Xr.name_is q, hn]
    · rw [dif_neg q, Xr.name_end (by omega)]
  obtain ⟨O, hO⟩ : ∃ O, Wx.name s.data.toList i = O := ⟨_, rfl⟩
  rw [hO] at HO ⊢
  have HN := Lib.hid hn
  have HN0 := Lib.hid hn
  have H := Lib.hid h
  have b1 := h.c1
  clear h hn hO
  go_enter Tryz.func136, Tryz.ntmps136
  go_wp2_with fail
  go_loopw [] (fun wr => ∃ j : Nat, i ≤ j ∧ Hid (Xr.At w0 wr g s j) ∧ Hid (Wx.nend false j (s.data.toList.drop j) = n)) (fun wr => s.size - Xr.place g wr)
  case atStart => exact ⟨i, Nat.le_refl _, H, HN⟩
  case round =>
    clear H HN b1
    obtain ⟨j, hij, HA, HN⟩ := hrel
    have HM := Lib.hid (Xr.place_eq HA.out)
    have pk := Xr.peek HA.out
    have nb := fun u => Kn.isNameByte (s.data.toList.getD j 0) u
    cases hb : Wx.sign false (s.data.toList.getD j 0) with
    | true =>
      rw [hb] at nb
      have hlt : j < s.size := by
        by_cases q : j < s.size
        · exact q
        · rw [Xr.getD_end (by omega)] at hb
          exact absurd hb (by decide)
      rw [Xr.getD hlt] at hb
      have HN2 : Hid (Wx.nend false (j + 1) (s.data.toList.drop (j + 1)) = n) := by
        have := HN.out
        rw [Wx.nend_step _ hlt, if_pos hb] at this
        exact this
      clear hb HN HO
      generalize ((s.data.toList.getD j 0).toNat : Int) = c at *
      go_wp2_with (first | (go_at_call 109; refine pk.mono ?_; rintro e w1 ⟨rfl, n1, rfl⟩; have HA1 := Lib.hid (HA.out.drewN n1); clear HA pk; generalize wr.drewN n1 = w1 at *; have c1 := HA1.out.c1; have f := HA1.out.fz; have HA2 := Lib.hid (HA1.out.set1 (j + 1) hlt); rw [show ((j + 1 : Nat) : Int) = (j : Int) + 1 by omega] at HA2; clear HA1) | (go_at_call 157; refine (nb _).mono ?_; rintro e w' ⟨rfl, hw⟩; have hw := hw.symm; subst hw))
      go_roundw
      case rel => exact ⟨j + 1, by omega, HA2, HN2⟩
      case measure => rw [Xr.place_eq HA2.out, HM.out]; omega
    | false =>
      rw [hb] at nb
      have hjn : j = n := by
        have := HN.out
        by_cases q : j < s.size
        · rw [Xr.getD q] at hb
          rw [Wx.nend_step _ q, if_neg (by rw [hb]; decide)] at this
          exact this
        · rw [Wx.nend_end _ (by omega)] at this
          exact this
      subst hjn
      clear hb HN
      generalize ((s.data.toList.getD j 0).toNat : Int) = c at *
      go_upto_region 4 with (first | (go_at_call 109; refine pk.mono ?_; rintro e w1 ⟨rfl, n1, rfl⟩; have HA1 := Lib.hid (HA.out.drewN n1); clear HA pk; generalize wr.drewN n1 = w1 at *) | (go_at_call 157; refine (nb _).mono ?_; rintro e w' ⟨rfl, hw⟩; have hw := hw.symm; subst hw))
      clear nb
      have c0 := HA1.out.c0
      have c1 := HA1.out.c1
      have hcutT : ∀ u : World, (Instr.slice 9 (.string s) (some (.int .i64 (i : Int))) (some (.int .i64 (j : Int))) none).run Tryz.prog u = .ok (.string (s.extract i j)) u := fun u => by
        have h := Wk.run_cut u s (i : Int) (j : Int) (by omega) (by omega) (by omega)
        rw [Int.toNat_natCast, Int.toNat_natCast] at h
        exact h
      have HTD : Hid ((s.extract i j).data.toList = (s.data.toList.drop i).take (j - i)) := Lib.extract_data s i j
      have hTz : (s.extract i j).size = j - i := by rw [ByteArray.size_extract]; omega
      have HO2 : Hid (O = if Pi.name (s.extract i j).data.toList = true then some ((s.extract i j).data.toList, j) else none) := by
        have ho := HO.out
        have hal := Xr.nend_all (s.data.toList.drop i) i
        rw [HN0.out] at hal
        unfold Hid
        rw [HTD.out]
        by_cases q : i < s.size
        · rw [dif_pos q] at ho
          by_cases hji : j = i
          · rw [if_pos (.inl hji)] at ho
            rw [ho, hji, Nat.sub_self]
            rfl
          · have ht : (s.data.toList.drop i).take (j - i) = s[i] :: (s.data.toList.drop (i + 1)).take (j - i - 1) := by
              rw [List.drop_eq_getElem_cons (by rw [Wk.len_data]; exact q), show j - i = (j - i - 1) + 1 by omega, List.take_succ_cons]
              rfl
            have hl : ((s.data.toList.drop i).take (j - i)).length = j - i := by rw [List.length_take, List.length_drop, Wk.len_data]; omega
            have hp := Xr.pi_name (c := s[i]) (r := (s.data.toList.drop (i + 1)).take (j - i - 1)) (by rw [← ht]; exact hal)
            rw [← ht, hl] at hp
            rw [hp, ho]
            by_cases hd : Pl.digit s[i] = true
            · rw [if_pos (.inr (.inl hd)), hd]
              rfl
            · have hd : Pl.digit s[i] = false := by cases h : Pl.digit s[i] with | false => rfl | true => exact absurd h hd
              rw [hd]
              by_cases h32 : 32 < j - i
              · rw [if_pos (.inr (.inr h32)), decide_eq_false (by omega)]
                rfl
              · rw [if_neg (fun q => q.elim hji fun q => q.elim (fun q => by cases q) h32), decide_eq_true (by omega)]
                rfl
        · rw [dif_neg q] at ho
          rw [ho, List.drop_of_length_le (by rw [Wk.len_data]; omega), List.take_nil]
          rfl
      have ki := fun u => Kn.is (s.extract i j) u (by omega)
      obtain ⟨B, hB⟩ : ∃ B, Pi.name (s.extract i j).data.toList = B := ⟨_, rfl⟩
      rw [hB] at ki HO2
      have hTs2 : (s.extract i j).size ≤ 281474976710656 := by omega
      clear HO HTD HM hTz hB HN0
      generalize s.extract i j = T at *
      go_quiet (fail)
      have HA2 := Lib.hid (HA1.out.drewN nq)
      clear HA1 c0 c1
      generalize w1.drewN nq = w2 at *
      cases B with
      | false =>
        have hO : none = O := HO2.out.symm
        subst hO
        clear HO2
        go_wp2_with (go_at_call 158; refine (ki _).mono ?_; rintro e w' ⟨rfl, hw⟩; have hw := hw.symm; subst hw)
        exact ⟨rfl, rfl, HA2.out.kept⟩
      | true =>
        have hO : some (T.data.toList, j) = O := HO2.out.symm
        subst hO
        clear HO2
        go_wp2_with (first | (go_at_call 158; refine (ki _).mono ?_; rintro e w' ⟨rfl, hw⟩; have hw := hw.symm; subst hw) | (go_at_call 75; refine (Tp.clone T _ hTs2).mono ?_; rintro e w3 ⟨rfl, b3⟩; have HA3 := Lib.hid (HA2.out.then b3); clear b3))
        go_ret
        exact ⟨rfl, HA3.out⟩
end Go.Proofs.YtjppobeomocgbaaGreatDoor

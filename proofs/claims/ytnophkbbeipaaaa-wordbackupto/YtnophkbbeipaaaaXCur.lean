/-
  THE LANDED READER in memory; the walks of isOver, peek, isBlank, isDigit, isNameByte, mayEnd, skipBlanks, skip, take.
-/
import Derived.Test.YtnophkbbeipaaaaOPath
import Derived.Test.YtnophkbbeipaaaaXSh
import Derived.Deep.QuietTactic
import Derived.Deep.RegionWith
namespace Go.Proofs.Ytnophkbbeipaaaa
open Go.RowKit
/-- what the reader throws -/
def Xr.fault (x : Int) : List PanicEntry := [{ v := .iface 23 (.int .i64 x), recovered := false }]
/-- the reader lies in block g, at place i; all but that block is as it was in w0 -/
structure Xr.At (w0 w : World) (g : Nat) (s : ByteArray) (i : Nat) : Prop where
  box : Bs.Box w g #[.string s, .int .i64 (i : Int)] 43
  kept : Cu.Kept w0 w g
  le : i ≤ s.size
section
variable {w0 w w' : World} {g : Nat} {s : ByteArray} {i : Nat}
theorem Xr.At.c0 (h : Xr.At w0 w g s i) : w.cell? ⟨g, 0, none⟩ = some (.string s) := Bs.Box.cell h.box 0 rfl
theorem Xr.At.c1 (h : Xr.At w0 w g s i) : w.cell? ⟨g, 1, none⟩ = some (.int .i64 (i : Int)) := Bs.Box.cell h.box 1 rfl
theorem Xr.At.fz (h : Xr.At w0 w g s i) : ∀ q, w.frozen? ⟨g, q, none⟩ = false := fun q => Bs.Box.frozen h.box q
theorem Xr.At.drewN (h : Xr.At w0 w g s i) (n : Nat) : Xr.At w0 (w.drewN n) g s i := ⟨h.box, h.kept.drewN n, h.le⟩
theorem Xr.At.set1 (h : Xr.At w0 w g s i) (j : Nat) (hj : j ≤ s.size) : Xr.At w0 (w.setCell ⟨g, 1, none⟩ (.int .i64 (j : Int))) g s j := ⟨Bs.Box.set h.box 1 _, h.kept.set _ _, hj⟩
theorem Xr.At.then (h : Xr.At w0 w g s i) (hb : Below w.heap.size w w') : Xr.At w0 w' g s i := ⟨Bs.Box.on h.box hb (Bs.Box.lt h.box), h.kept.then hb, h.le⟩
theorem Xr.At.start (h : Xr.At w0 w g s i) : Xr.At w w g s i := ⟨h.box, Cu.Kept.refl _ _, h.le⟩
theorem Xr.At.lt (h : Xr.At w0 w g s i) : g < w.heap.size := Bs.Box.lt h.box
end
theorem Xr.getD {s : ByteArray} {i : Nat} (h : i < s.size) : s.data.toList.getD i 0 = s[i] := by
  rw [List.getD_eq_getElem?_getD, List.getElem?_eq_getElem (by rw [Wk.len_data]; exact h)]
  rfl
theorem Xr.getD_end {s : ByteArray} {i : Nat} (h : s.size ≤ i) : s.data.toList.getD i 0 = 0 := by
  rw [List.getD_eq_getElem?_getD, List.getElem?_eq_none (by rw [Wk.len_data]; exact h)]
  rfl
theorem Xr.eq_dec (c d : UInt8) : ((c.toNat : Int) == (d.toNat : Int)) = (c == d) := by
  by_cases h : c = d
  · rw [h]; simp
  · rw [beq_eq_false_iff_ne.2 h, beq_eq_false_iff_ne]
    exact fun q => h (UInt8.toNat_inj.1 (by omega))
set_option maxHeartbeats 1000000 in
theorem Xr.isOver {w0 w : World} {g : Nat} {s : ByteArray} {i : Nat} (h : Xr.At w0 w g s i) :
    Calls Try.prog 23 #[.pointer (some ⟨g, 0, none⟩)] w fun e w' => e = .returned (.bool (decide (s.size ≤ i))) ∧ ∃ n, w' = w.drewN n := by
  have c0 := h.c0
  have c1 := h.c1
  have hle := h.le
  have d1 : ((i : Int) == (s.size : Int)) = decide (s.size ≤ i) := by
    by_cases q : s.size ≤ i
    · rw [decide_eq_true q]; exact beq_iff_eq.2 (by omega)
    · rw [decide_eq_false q]; exact beq_eq_false_iff_ne.2 (by omega)
  generalize decide (s.size ≤ i) = B at *
  clear h hle
  go_enter Try.func23, Try.ntmps23
  go_wp2_with fail
  go_quiet (fail)
  go_wp2
  go_ret
  exact ⟨rfl, _, rfl⟩
set_option maxHeartbeats 1000000 in
theorem Xr.peek {w0 w : World} {g : Nat} {s : ByteArray} {i : Nat} (h : Xr.At w0 w g s i) :
    Calls Try.prog 31 #[.pointer (some ⟨g, 0, none⟩)] w fun e w' => e = .returned (.int .u8 ((s.data.toList.getD i 0).toNat : Int)) ∧ ∃ n, w' = w.drewN n := by
  have ov := Xr.isOver h
  by_cases q : s.size ≤ i
  · rw [decide_eq_true q] at ov
    rw [Xr.getD_end q]
    clear h q
    go_enter Try.func31, Try.ntmps31
    go_wp2_with (go_at_call 23; refine ov.mono ?_; rintro e w1 ⟨rfl, n1, rfl⟩)
    go_ret
    exact ⟨rfl, _, rfl⟩
  · rw [decide_eq_false q] at ov
    have hlt : i < s.size := by omega
    rw [Xr.getD hlt]
    clear q
    go_enter Try.func31, Try.ntmps31
    go_wp2_with (go_at_call 23; refine ov.mono ?_; rintro e w1 ⟨rfl, n1, rfl⟩)
    have c0 := (h.drewN n1).c0
    have c1 := (h.drewN n1).c1
    have HE : Hid (∃ n, w.drewN n1 = w.drewN n) := ⟨n1, rfl⟩
    clear h
    generalize w.drewN n1 = w1 at *
    go_quiet (fail)
    go_wp2
    go_ret
    obtain ⟨n, rfl⟩ := HE.out
    exact ⟨rfl, _, World.drewN_drewN _ _ _⟩
theorem Xr.isBlank (c : UInt8) (w : World) : Calls Try.prog 30 #[.int .u8 (c.toNat : Int)] w fun e w' => e = .returned (.bool (Lx.blank c)) ∧ w' = w := by
  have e32 : ((c.toNat : Int) == 32) = (c == 32) := Xr.eq_dec c 32
  have e9 : ((c.toNat : Int) == 9) = (c == 9) := Xr.eq_dec c 9
  have e10 : ((c.toNat : Int) == 10) = (c == 10) := Xr.eq_dec c 10
  unfold Lx.blank
  generalize (c == 32) = b1 at *
  generalize (c == 9) = b2 at *
  generalize (c == 10) = b3 at *
  generalize c.toNat = m at *
  cases b1 <;> cases b2 <;> cases b3 <;> (go_enter Try.func30, Try.ntmps30; go_wp2_with fail; go_ret; exact ⟨rfl, rfl⟩)
theorem Xr.isDigit (c : UInt8) (w : World) : Calls Try.prog 37 #[.int .u8 (c.toNat : Int)] w fun e w' => e = .returned (.bool (Pl.digit c)) ∧ w' = w := by
  unfold Pl.digit
  generalize c.toNat = m
  by_cases h1 : 48 ≤ m
  · by_cases h2 : m ≤ 57
    · rw [decide_eq_true h1, decide_eq_true h2]
      go_enter Try.func37, Try.ntmps37
      go_wp2
      go_ret
      exact ⟨by first | rfl | (simp; omega), rfl⟩
    · rw [decide_eq_true h1, decide_eq_false h2]
      go_enter Try.func37, Try.ntmps37
      go_wp2
      go_ret
      exact ⟨by first | rfl | (simp; omega), rfl⟩
  · rw [decide_eq_false h1]
    go_enter Try.func37, Try.ntmps37
    go_wp2
    go_ret
    exact ⟨by first | rfl | (simp; omega), rfl⟩
theorem Xr.all {p : UInt8 → Bool} (h : (List.range 256).all (fun n => p (UInt8.ofNat n)) = true) (c : UInt8) : p c = true := by
  have := List.all_eq_true.1 h c.toNat (List.mem_range.2 c.toNat_lt)
  simpa using this
theorem Xr.sign_is (c : UInt8) : Wx.sign false c = ((c == 95) || Pl.digit c || (decide (97 ≤ c.toNat) && decide (c.toNat ≤ 122)) || (decide (65 ≤ c.toNat) && decide (c.toNat ≤ 90))) :=
  beq_iff_eq.1 (Xr.all (p := fun c => Wx.sign false c == ((c == 95) || Pl.digit c || (decide (97 ≤ c.toNat) && decide (c.toNat ≤ 122)) || (decide (65 ≤ c.toNat) && decide (c.toNat ≤ 90)))) (by decide +kernel) c)
/-- may a word end at this place? -/
def Xr.fin (s : ByteArray) (i : Nat) : Bool := decide (s.size ≤ i) || Lx.blank (s.data.toList.getD i 0) || decide (s.data.toList.getD i 0 = 124)
set_option maxHeartbeats 1000000 in
theorem Xr.mayEnd {w0 w : World} {g : Nat} {s : ByteArray} {i : Nat} (h : Xr.At w0 w g s i) :
    Calls Try.prog 34 #[.pointer (some ⟨g, 0, none⟩)] w fun e w' => e = .returned (.bool (Xr.fin s i)) ∧ ∃ n, w' = w.drewN n := by
  have ov := Xr.isOver h
  have pk := fun n => Xr.peek (h.drewN n)
  have e124 : ((((s.data.toList.getD i 0).toNat : Nat) : Int) == 124) = decide (s.data.toList.getD i 0 = 124) := by rw [show (124 : Int) = ((124 : UInt8).toNat : Int) from rfl, Xr.eq_dec]; rfl
  have bl := fun u => Xr.isBlank (s.data.toList.getD i 0) u
  unfold Xr.fin
  clear h
  generalize decide (s.size ≤ i) = B at *
  generalize decide (s.data.toList.getD i 0 = 124) = B2 at *
  generalize Lx.blank (s.data.toList.getD i 0) = B3 at *
  generalize ((s.data.toList.getD i 0).toNat : Int) = c at *
  cases B
  · cases B3 <;> cases B2 <;> (
      go_enter Try.func34, Try.ntmps34
      go_wp2_with (first | (go_at_call 23; refine ov.mono ?_; rintro e w1 ⟨rfl, n1, rfl⟩) | (go_at_call 31; refine (pk _).mono ?_; rintro e w1 ⟨rfl, n2, rfl⟩; rw [World.drewN_drewN]) | (go_at_call 30; refine (bl _).mono ?_; rintro e w' ⟨rfl, hw⟩; have hw := hw.symm; subst hw))
      go_ret
      exact ⟨rfl, _, rfl⟩)
  · go_enter Try.func34, Try.ntmps34
    go_wp2_with (go_at_call 23; refine ov.mono ?_; rintro e w1 ⟨rfl, n1, rfl⟩)
    go_ret
    exact ⟨rfl, _, rfl⟩
theorem Xr.run_from (w : World) (s : ByteArray) (l : Int) (h0 : 0 ≤ l) (h1 : l ≤ s.size) :
    (Instr.slice 9 (.string s) (some (.int .i64 l)) none none).run Try.prog w = .ok (.string (s.extract l.toNat s.size)) w := by
  simp [Instr.slice, run_underlying Try.underlying9, Instr.sliceBounds, run_sliceBound, h0, h1]
set_option maxHeartbeats 1000000 in
theorem Xr.skip (mk : ByteArray) (b : Bool) {w0 w : World} {g : Nat} {s : ByteArray} {i : Nat} (h : Xr.At w0 w g s i) (hs : s.size ≤ 1099511627776) (hb : Lib.hasPrefix (s.data.toList.drop i) mk.data.toList = b) :
    Calls Try.prog 32 #[.pointer (some ⟨g, 0, none⟩), .string mk] w fun e w' => e = .returned (.bool b) ∧ Xr.At w0 w' g s (if b = true then i + mk.size else i) := by
  have hle := h.le
  have c0 := h.c0
  have c1 := h.c1
  have sl := fun u => Xr.run_from u s (i : Int) (by omega) (by omega)
  rw [Int.toNat_natCast] at sl
  have k1 := fun u => Sh.strings_HasPrefix (s.extract i s.size) mk u
  rw [Wk.rest_data, hb] at k1
  have H := Lib.hid h
  clear h
  cases b with
  | true =>
    have hz : i + mk.size ≤ s.size := by
      obtain ⟨r, e⟩ := List.isPrefixOf_iff_prefix.1 (show mk.data.toList.isPrefixOf (s.data.toList.drop i) = true from hb)
      have q := congrArg List.length e
      rw [List.length_append, List.length_drop, Wk.len_data, Wk.len_data] at q
      omega
    clear hb
    generalize s.extract i s.size = V at *
    go_enter Try.func32, Try.ntmps32
    go_wp2_with fail
    go_quiet (first | (go_at_call 36; exact Calls.quiet_of_same (k1 _)))
    have H1 := Lib.hid (H.out.drewN nq)
    clear H c0 c1
    generalize w.drewN nq = w1 at *
    have c1 := H1.out.c1
    have f := H1.out.fz
    have H3 := Lib.hid (H1.out.set1 (i + mk.size) hz)
    rw [show ((i + mk.size : Nat) : Int) = (i : Int) + (mk.size : Int) by omega] at H3
    clear H1
    go_wp2_with fail
    go_ret
    exact ⟨rfl, H3.out⟩
  | false =>
    clear hb
    generalize s.extract i s.size = V at *
    go_enter Try.func32, Try.ntmps32
    go_wp2_with fail
    go_quiet (first | (go_at_call 36; exact Calls.quiet_of_same (k1 _)))
    go_wp2
    go_ret
    exact ⟨rfl, H.out.drewN _⟩
set_option maxHeartbeats 1000000 in
theorem Xr.take {w0 w : World} {g : Nat} {s : ByteArray} {i : Nat} (h : Xr.At w0 w g s i) (hi : i < s.size) (hs : s.size ≤ 1099511627776) :
    Calls Try.prog 46 #[.pointer (some ⟨g, 0, none⟩)] w fun e w' => e = .returned (.int .u8 (s[i].toNat : Int)) ∧ Xr.At w0 w' g s (i + 1) := by
  have ov := Xr.isOver h
  rw [decide_eq_false (by omega)] at ov
  go_enter Try.func46, Try.ntmps46
  go_wp2_with (go_at_call 23; refine ov.mono ?_; rintro e w1 ⟨rfl, n1, rfl⟩)
  have H1 := Lib.hid (h.drewN n1)
  clear h ov
  generalize w.drewN n1 = w1 at *
  have c0 := H1.out.c0
  have c1 := H1.out.c1
  go_quiet (fail)
  have H2 := Lib.hid (H1.out.drewN nq)
  clear H1 c0 c1
  generalize w1.drewN nq = w2 at *
  have c1 := H2.out.c1
  have f := H2.out.fz
  have H3 := Lib.hid (H2.out.set1 (i + 1) hi)
  rw [show ((i + 1 : Nat) : Int) = (i : Int) + 1 by omega] at H3
  clear H2
  go_wp2_with fail
  go_ret
  exact ⟨rfl, H3.out⟩
set_option maxHeartbeats 1000000 in
theorem Xr.take_end {w0 w : World} {g : Nat} {s : ByteArray} {i : Nat} (h : Xr.At w0 w g s i) (hi : s.size ≤ i) :
    Calls Try.prog 46 #[.pointer (some ⟨g, 0, none⟩)] w fun e w' => e = .panicked (Xr.fault 1401) ∧ Cu.Kept w0 w' g := by
  have ov := Xr.isOver h
  rw [decide_eq_true hi] at ov
  go_enter Try.func46, Try.ntmps46
  go_wp2_with (go_at_call 23; refine ov.mono ?_; rintro e w1 ⟨rfl, n1, rfl⟩)
  exact ⟨rfl, rfl, (h.drewN n1).kept⟩
end Go.Proofs.Ytnophkbbeipaaaa

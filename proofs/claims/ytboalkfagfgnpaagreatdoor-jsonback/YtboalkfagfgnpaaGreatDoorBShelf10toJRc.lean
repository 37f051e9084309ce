/-
  The library's contracts that the walks lean on, laid at this program's own numbers: strings.Builder's WriteRune and Len, and strings.HasPrefix.
-/
import Derived.Shelf.Strings.BuilderRune
import Derived.Shelf.Strings.Prefix
import Derived.Shelf.Strings.BuilderF
import Derived.Test.YtboalkfagfgnpaaGreatDoorBShelf
import Derived.Test.YtboalkfagfgnpaaGreatDoorBJRhtoJRa
import Derived.Laws.Bits64b
import Derived.Deep.RegionWith
import Derived.Lib.Hide
namespace Go.Proofs.YtboalkfagfgnpaaGreatDoor
open Go.Shelf
def Sh.lays168_ren : Go.Shelf.Ren := ⟨fun | 168 => 95 | 240 => 60 | 242 => 117 | 276 => 81 | 278 => 129 | n => n, fun | 0 => 0 | 3 => 3 | 4 => 4 | 5 => 5 | 9 => 9 | 20 => 20 | 21 => 21 | 37 => 44 | 46 => 87 | 51 => 133 | 70 => 43 | 72 => 46 | 75 => 67 | 80 => 49 | 164 => 99 | n => n, fun | n => n⟩
theorem Sh.lays168 : Go.Proofs.Lays.n168 Tryz.prog Sh.lays168_ren := {
  mixed := by kernel_rfl
  f168 := Tryz.func95.trans (congrArg some (by kernel_rfl))
  f240 := Tryz.func60.trans (congrArg some (by kernel_rfl))
  f242 := Tryz.func117.trans (congrArg some (by kernel_rfl))
  f276 := Tryz.func81.trans (congrArg some (by kernel_rfl))
  f278 := Tryz.func129.trans (congrArg some (by kernel_rfl))
  t0 := Tryz.underlying0
  a0 := Tryz.isAgg0
  z0 := Tryz.sizeOf0
  v0 := Tryz.zeroValue0
  t3 := Tryz.underlying3
  a3 := Tryz.isAgg3
  z3 := Tryz.sizeOf3
  v3 := Tryz.zeroValue3
  t4 := Tryz.underlying4
  a4 := Tryz.isAgg4
  z4 := Tryz.sizeOf4
  v4 := Tryz.zeroValue4
  t5 := Tryz.underlying5
  a5 := Tryz.isAgg5
  z5 := Tryz.sizeOf5
  v5 := Tryz.zeroValue5
  t9 := Tryz.underlying9
  a9 := Tryz.isAgg9
  z9 := Tryz.sizeOf9
  v9 := Tryz.zeroValue9
  t20 := Tryz.underlying20
  a20 := Tryz.isAgg20
  z20 := Tryz.sizeOf20
  v20 := Tryz.zeroValue20
  t21 := Tryz.underlying21
  a21 := Tryz.isAgg21
  z21 := Tryz.sizeOf21
  v21 := Tryz.zeroValue21
  t37 := Tryz.underlying44
  a37 := Tryz.isAgg44
  z37 := Tryz.sizeOf44
  v37 := Tryz.zeroValue44
  t46 := Tryz.underlying87
  a46 := Tryz.isAgg87
  z46 := Tryz.sizeOf87
  v46 := Tryz.zeroValue87
  t51 := Tryz.underlying133
  a51 := Tryz.isAgg133
  z51 := Tryz.sizeOf133
  v51 := Tryz.zeroValue133
  t70 := Tryz.underlying43
  a70 := Tryz.isAgg43
  z70 := Tryz.sizeOf43
  v70 := Tryz.zeroValue43
  t72 := Tryz.underlying46
  a72 := Tryz.isAgg46
  z72 := Tryz.sizeOf46
  v72 := Tryz.zeroValue46
  t75 := Tryz.underlying67
  a75 := Tryz.isAgg67
  z75 := Tryz.sizeOf67
  v75 := Tryz.zeroValue67
  t164 := Tryz.underlying99
  a164 := Tryz.isAgg99
  z164 := Tryz.sizeOf99
  v164 := Tryz.zeroValue99 }
theorem Sh.Builder_Extra_168 : Builder.Extra Tryz.prog Sh.lays168_ren := {
  sizeBuilder := by kernel_rfl
  liesBuilder := by kernel_rfl
  t5 := Tryz.underlying5
  a5 := Tryz.isAgg5
  z5 := Tryz.sizeOf5
  v5 := Tryz.zeroValue5
  infoByte := by kernel_rfl
  cellsByte := by kernel_rfl
  sizeByte := by kernel_rfl
  neB5 := by decide }
open Go.RowKit in
theorem Sh.Builder_WriteRune_k (B b : Nat) (bs : List Value) (r : Int) (hr0 : -2147483648 ≤ r) (hr1 : r ≤ 2147483647) (w : World) (h : Lib.IsBuilderF 46 5 B b bs w) (hlen : bs.length + 4 ≤ 140737488355328) (hBw : B ≤ w.heap.size) :
    Calls Tryz.prog 95 #[.pointer (some ⟨b, 0, none⟩), .int .i32 r] w fun e w' => e = .returned (.tuple #[.int .i64 (Lib.runeCells r).length, .nilIface]) ∧ (Lib.BuilderAtF 46 5 B b (.pointer (some ⟨b, 0, none⟩)) (bs ++ Lib.runeCells r) w' ∧ Below B w w' ∧ Lib.OthersKept 5 (some b) w w') := Any.Builder_WriteRune_k Sh.lays168 Sh.Builder_Extra_168 B b bs r hr0 hr1 w h hlen hBw
def Sh.lays99_ren : Go.Shelf.Ren := ⟨fun | 99 => 99 | 206 => 118 | n => n, fun | 9 => 9 | 3 => 3 | 4 => 4 | n => n, fun | n => n⟩
theorem Sh.lays99 : Go.Proofs.Lays.n99 Tryz.prog Sh.lays99_ren := {
  mixed := by kernel_rfl
  f99 := Tryz.func99.trans (congrArg some (by kernel_rfl))
  f206 := Tryz.func118.trans (congrArg some (by kernel_rfl))
  t3 := Tryz.underlying3
  a3 := Tryz.isAgg3
  z3 := Tryz.sizeOf3
  v3 := Tryz.zeroValue3
  t4 := Tryz.underlying4
  a4 := Tryz.isAgg4
  z4 := Tryz.sizeOf4
  v4 := Tryz.zeroValue4
  t9 := Tryz.underlying9
  a9 := Tryz.isAgg9
  z9 := Tryz.sizeOf9
  v9 := Tryz.zeroValue9 }
open Go.RowKit in
theorem Sh.strings_HasPrefix (s p : ByteArray) (w : World) :
    Calls Tryz.prog 99 #[.string s, .string p] w fun e w' => e = .returned (.bool (Lib.hasPrefix s.data.toList p.data.toList)) ∧ w' = w := Any.strings_HasPrefix Sh.lays99 s p w
def Sh.lays170_ren : Go.Shelf.Ren := ⟨fun | 170 => 17 | n => n, fun | 70 => 43 | 3 => 3 | 0 => 0 | 72 => 46 | 37 => 44 | 5 => 5 | n => n, fun | n => n⟩
theorem Sh.lays170 : Go.Proofs.Lays.n170 Tryz.prog Sh.lays170_ren := {
  mixed := by kernel_rfl
  f170 := Tryz.func17.trans (congrArg some (by kernel_rfl))
  t0 := Tryz.underlying0
  a0 := Tryz.isAgg0
  z0 := Tryz.sizeOf0
  v0 := Tryz.zeroValue0
  t3 := Tryz.underlying3
  a3 := Tryz.isAgg3
  z3 := Tryz.sizeOf3
  v3 := Tryz.zeroValue3
  t37 := Tryz.underlying44
  a37 := Tryz.isAgg44
  z37 := Tryz.sizeOf44
  v37 := Tryz.zeroValue44
  t70 := Tryz.underlying43
  a70 := Tryz.isAgg43
  z70 := Tryz.sizeOf43
  v70 := Tryz.zeroValue43
  t72 := Tryz.underlying46
  a72 := Tryz.isAgg46
  z72 := Tryz.sizeOf46
  v72 := Tryz.zeroValue46 }
open Go.RowKit in
theorem Sh.Builder_Len_f (B b : Nat) (bs : List Value) (w : World) (h : Lib.IsBuilderF 46 5 B b bs w) :
    Calls Tryz.prog 17 #[.pointer (some ⟨b, 0, none⟩)] w fun e w' => e = .returned (.int .i64 bs.length) ∧ w' = w := Any.Builder_Len_f Sh.lays170 B b bs w h
end Go.Proofs.YtboalkfagfgnpaaGreatDoor
/-
  THE WALKS of the landed reader: word, isDigit, digitOfSixteen, skipBlanks, unit.
-/
namespace Go.Proofs.YtboalkfagfgnpaaGreatDoor
open Go.RowKit
theorem Jr.run_from (w : World) (s : ByteArray) (l : Int) (h0 : 0 ≤ l) (h1 : l ≤ s.size) :
    (Instr.slice 9 (.string s) (some (.int .i64 l)) none none).run Tryz.prog w = .ok (.string (s.extract l.toNat s.size)) w := by
  simp [Instr.slice, run_underlying Tryz.underlying9, Instr.sliceBounds, run_sliceBound, h0, h1]
set_option maxRecDepth 100000 in
set_option maxHeartbeats 1000000 in
theorem Jr.word_no (p : ByteArray) (l : List UInt8) (hp : Pl.pre p.data.toList l = false) (g : Nat) (T : ByteArray) (w : World) (h : Jr.Rd w g T l) :
    Calls Tryz.prog 70 #[.pointer (some ⟨g, 0, none⟩), .string p] w fun e w' => e = .panicked Jr.fault ∧ w.grownBy w' (some g) := by
  obtain ⟨i, h1, h2, h3, hB⟩ := h
  have c0 : w.cell? ⟨g, 0, none⟩ = some (.string T) := hB.cell 0 rfl
  have c1 : w.cell? ⟨g, 1, none⟩ = some (.int .i64 (i : Int)) := hB.cell 1 rfl
  have hs := fun u => Jr.run_from u T (i : Int) (by omega) (by omega)
  have hpx : ∀ u, Calls Tryz.prog 99 #[.string (T.extract i T.size), .string p] u fun e w' => e = .returned (.bool false) ∧ w' = u := fun u => by
    have := Sh.strings_HasPrefix (T.extract i T.size) p u
    rw [Wk.rest_data, h2, show Lib.hasPrefix l p.data.toList = false from hp] at this
    exact this
  have ei : ((i : Int)).toNat = i := by omega
  rw [ei] at hs
  clear h2 hp hB
  generalize T.extract i T.size = X at *
  go_enter Tryz.func70, Tryz.ntmps70
  go_wp2_with fail
  go_quiet (first | (go_at_call 99; exact Calls.quiet_of_same (hpx _)))
  go_wp2
  exact ⟨rfl, rfl, Jr.grown_some (Jr.grown_drewN _ _) _⟩
set_option maxRecDepth 100000 in
set_option maxHeartbeats 1000000 in
theorem Jr.word (p : ByteArray) (l : List UInt8) (hp : Pl.pre p.data.toList l = true) (g : Nat) (T : ByteArray) (w : World) (h : Jr.Rd w g T l) :
    Calls Tryz.prog 70 #[.pointer (some ⟨g, 0, none⟩), .string p] w fun e w' => e = .returned (.tuple #[]) ∧ w.grownBy w' (some g) ∧ Jr.Rd w' g T (l.drop p.size) := by
  obtain ⟨i, h1, h2, h3, hB⟩ := h
  have c0 : w.cell? ⟨g, 0, none⟩ = some (.string T) := hB.cell 0 rfl
  have c1 : w.cell? ⟨g, 1, none⟩ = some (.int .i64 (i : Int)) := hB.cell 1 rfl
  have f1 := hB.frozen 1
  have hs := fun u => Jr.run_from u T (i : Int) (by omega) (by omega)
  have hpx : ∀ u, Calls Tryz.prog 99 #[.string (T.extract i T.size), .string p] u fun e w' => e = .returned (.bool true) ∧ w' = u := fun u => by
    have := Sh.strings_HasPrefix (T.extract i T.size) p u
    rw [Wk.rest_data, h2, show Lib.hasPrefix l p.data.toList = true from hp] at this
    exact this
  have ei : ((i : Int)).toNat = i := by omega
  have hle : i + p.size ≤ T.size := by
    obtain ⟨r, e⟩ := (Pl.pre_iff _ _).1 hp
    have q := congrArg List.length h2
    rw [List.length_drop, Wk.len_data, e, List.length_append, Wk.len_data] at q
    omega
  have HR : Hid (l.drop p.size = T.data.toList.drop (i + p.size)) := by
    unfold Hid
    rw [← h2, List.drop_drop]
  rw [ei] at hs
  have HB := Lib.hid hB
  clear h2 hp hB
  generalize T.extract i T.size = X at *
  go_enter Tryz.func70, Tryz.ntmps70
  go_wp2_with fail
  go_quiet (first | (go_at_call 99; exact Calls.quiet_of_same (hpx _)))
  go_wp2
  go_end0
  exact ⟨rfl, Jr.grown_trans (Jr.grown_some (Jr.grown_drewN _ _) _) (Jr.grown_set _ _ _ _), Jr.Rd.step h3 HB.out (Jr.grown_drewN _ _) p.size hle HR.out⟩
theorem Jr.isDigit (c : UInt8) (w : World) : Calls Tryz.prog 120 #[.int .u8 (c.toNat : Int)] w fun e w' => e = .returned (.bool (Pl.digit c)) ∧ w' = w := by
  unfold Pl.digit
  generalize c.toNat = m
  by_cases h1 : 48 ≤ m
  · by_cases h2 : m ≤ 57
    · rw [decide_eq_true h1, decide_eq_true h2]
      go_enter Tryz.func120, Tryz.ntmps120
      go_wp2
      go_ret
      exact ⟨by first | rfl | (simp; omega), rfl⟩
    · rw [decide_eq_true h1, decide_eq_false h2]
      go_enter Tryz.func120, Tryz.ntmps120
      go_wp2
      go_ret
      exact ⟨by first | rfl | (simp; omega), rfl⟩
  · rw [decide_eq_false h1]
    go_enter Tryz.func120, Tryz.ntmps120
    go_wp2
    go_ret
    exact ⟨by first | rfl | (simp; omega), rfl⟩
set_option maxRecDepth 100000 in
set_option maxHeartbeats 1000000 in
theorem Jr.sixteen (c : UInt8) (hc : Pl.dig c < 16) (w : World) : Calls Tryz.prog 132 #[.int .u8 (c.toNat : Int)] w fun e w' => e = .returned (.int .i32 (Pl.dig c : Int)) ∧ w' = w := by
  have di := Jr.isDigit c
  have hq : (Pl.digit c = true ∧ 48 ≤ c.toNat ∧ c.toNat ≤ 57 ∧ Pl.dig c = c.toNat - 48) ∨ (Pl.digit c = false ∧ 97 ≤ c.toNat ∧ c.toNat ≤ 102 ∧ Pl.dig c = c.toNat - 87) ∨ (Pl.digit c = false ∧ 65 ≤ c.toNat ∧ c.toNat ≤ 70 ∧ Pl.dig c = c.toNat - 55) := by
    have := Ug.all (p := fun c => !decide (Pl.dig c < 16) || decide ((Pl.digit c = true ∧ 48 ≤ c.toNat ∧ c.toNat ≤ 57 ∧ Pl.dig c = c.toNat - 48) ∨ (Pl.digit c = false ∧ 97 ≤ c.toNat ∧ c.toNat ≤ 102 ∧ Pl.dig c = c.toNat - 87) ∨ (Pl.digit c = false ∧ 65 ≤ c.toNat ∧ c.toNat ≤ 70 ∧ Pl.dig c = c.toNat - 55))) (by decide +kernel) c
    rw [decide_eq_true hc] at this
    simpa using this
  clear hc
  generalize Pl.dig c = D at *
  generalize Pl.digit c = b at *
  generalize c.toNat = m at *
  rcases hq with ⟨rfl, h1, h2, rfl⟩ | ⟨rfl, h1, h2, rfl⟩ | ⟨rfl, h1, h2, rfl⟩
  · have e1 : IntKind.u8.wrap ((m : Int) - 48) = (m : Int) - 48 := by rw [IntKind.wrap_u8]; omega
    have e2 : ((m - 48 : Nat) : Int) = (m : Int) - 48 := by omega
    go_enter Tryz.func132, Tryz.ntmps132
    go_wp2_with (go_at_call 120; refine (di _).mono ?_; rintro e w' ⟨rfl, hw⟩; have hw := hw.symm; subst hw)
    go_ret
    exact ⟨by rw [e2]; rfl, rfl⟩
  · have d1 : decide ((97 : Int) ≤ (m : Int)) = true := decide_eq_true (by omega)
    have d2 : decide ((m : Int) ≤ 102) = true := decide_eq_true (by omega)
    have e2 : ((m - 87 : Nat) : Int) = (m : Int) - 97 + 10 := by omega
    go_enter Tryz.func132, Tryz.ntmps132
    go_wp2_with (go_at_call 120; refine (di _).mono ?_; rintro e w' ⟨rfl, hw⟩; have hw := hw.symm; subst hw)
    go_ret
    exact ⟨by rw [e2]; rfl, rfl⟩
  · have d1 : decide ((97 : Int) ≤ (m : Int)) = false := decide_eq_false (by omega)
    have d3 : decide ((65 : Int) ≤ (m : Int)) = true := decide_eq_true (by omega)
    have d2 : decide ((m : Int) ≤ 70) = true := decide_eq_true (by omega)
    have e2 : ((m - 55 : Nat) : Int) = (m : Int) - 65 + 10 := by omega
    go_enter Tryz.func132, Tryz.ntmps132
    go_wp2_with (go_at_call 120; refine (di _).mono ?_; rintro e w' ⟨rfl, hw⟩; have hw := hw.symm; subst hw)
    go_ret
    exact ⟨by rw [e2]; rfl, rfl⟩
end Go.Proofs.YtboalkfagfgnpaaGreatDoor
/-
  THE WALKS of the landed reader: skipBlanks, unit, numbered, escaped.
-/
namespace Go.Proofs.YtboalkfagfgnpaaGreatDoor
open Go.RowKit
/-- what a reading function does: it gives what it read and stands behind it, or throws -/
def Jr.Out {α : Type} (o : Option (α × List UInt8)) (f : α → Value) (w : World) (g : Nat) (T : ByteArray) (e : Ending) (w' : World) : Prop :=
  match o with
  | none => e = .panicked Jr.fault ∧ w.grownBy w' (some g)
  | some (a, r) => e = .returned (f a) ∧ w.grownBy w' (some g) ∧ Jr.Rd w' g T r
set_option maxRecDepth 100000 in
set_option maxHeartbeats 1000000 in
theorem Jr.sixteen_no (c : UInt8) (hc : ¬ Pl.dig c < 16) (w : World) : Calls Tryz.prog 132 #[.int .u8 (c.toNat : Int)] w fun e w' => e = .panicked Jr.fault ∧ w' = w := by
  have di := Jr.isDigit c
  have hq : Pl.digit c = false ∧ (c.toNat < 97 ∨ 102 < c.toNat) ∧ (c.toNat < 65 ∨ 70 < c.toNat) := by
    have := Ug.all (p := fun c => decide (Pl.dig c < 16) || decide (Pl.digit c = false ∧ (c.toNat < 97 ∨ 102 < c.toNat) ∧ (c.toNat < 65 ∨ 70 < c.toNat))) (by decide +kernel) c
    rw [decide_eq_false hc] at this
    simpa using this
  clear hc
  obtain ⟨h0, h1, h2⟩ := hq
  rw [h0] at di
  clear h0
  generalize c.toNat = m at *
  by_cases q1 : 97 ≤ m
  · have d1 : decide ((97 : Int) ≤ (m : Int)) = true := decide_eq_true (by omega)
    have d2 : decide ((m : Int) ≤ 102) = false := decide_eq_false (by omega)
    have d3 : decide ((65 : Int) ≤ (m : Int)) = true := decide_eq_true (by omega)
    have d4 : decide ((m : Int) ≤ 70) = false := decide_eq_false (by omega)
    clear h1 h2
    go_enter Tryz.func132, Tryz.ntmps132
    go_wp2_with (go_at_call 120; refine (di _).mono ?_; rintro e w' ⟨rfl, hw⟩; have hw := hw.symm; subst hw)
    exact ⟨rfl, rfl, rfl⟩
  · have d1 : decide ((97 : Int) ≤ (m : Int)) = false := decide_eq_false (by omega)
    by_cases q2 : 65 ≤ m
    · have d3 : decide ((65 : Int) ≤ (m : Int)) = true := decide_eq_true (by omega)
      have d4 : decide ((m : Int) ≤ 70) = false := decide_eq_false (by omega)
      clear h1 h2
      go_enter Tryz.func132, Tryz.ntmps132
      go_wp2_with (go_at_call 120; refine (di _).mono ?_; rintro e w' ⟨rfl, hw⟩; have hw := hw.symm; subst hw)
      exact ⟨rfl, rfl, rfl⟩
    · have d3 : decide ((65 : Int) ≤ (m : Int)) = false := decide_eq_false (by omega)
      clear h1 h2
      go_enter Tryz.func132, Tryz.ntmps132
      go_wp2_with (go_at_call 120; refine (di _).mono ?_; rintro e w' ⟨rfl, hw⟩; have hw := hw.symm; subst hw)
      exact ⟨rfl, rfl, rfl⟩
theorem Jr.skip (c : UInt8) (hc : c ≠ 0) (l : List UInt8) (g : Nat) (T : ByteArray) (w : World) (h : Jr.Rd w g T l) :
    Calls Tryz.prog 75 #[.pointer (some ⟨g, 0, none⟩), .int .u8 (c.toNat : Int)] w fun e w' => e = .returned (.bool (decide (l.headD 0 = c))) ∧ w.grownBy w' (some g) ∧ Jr.Rd w' g T (if l.headD 0 = c then l.tail else l) := by
  by_cases hq : l.headD 0 = c
  · rw [decide_eq_true hq, if_pos hq]
    cases l with
    | nil => exact absurd hq.symm hc
    | cons d r =>
      have hq : d = c := hq
      subst hq
      exact Jr.skip_yes d r g T w h
  · rw [decide_eq_false hq, if_neg hq]
    exact (Jr.skip_no l c hq g T w h).mono fun e w' ⟨h1, h2⟩ => ⟨h1, Jr.grown_some h2 _, h.on h2⟩
theorem Jr.ws_skip {c : UInt8} {l : List UInt8} (h : l.headD 0 = c) (hb : Js.blank c = true) : Js.ws l.tail = Js.ws l ∧ l.tail.length < l.length := by
  cases l with
  | nil => subst h; exact absurd hb (by decide)
  | cons d r =>
    have h : d = c := h
    subst h
    refine ⟨?_, by simp⟩
    unfold Js.ws
    rw [List.dropWhile_cons, if_pos hb]
    rfl
theorem Jr.ws_stop {l : List UInt8} (h : l.headD 0 ≠ 32 ∧ l.headD 0 ≠ 10 ∧ l.headD 0 ≠ 9 ∧ l.headD 0 ≠ 13) : Js.ws l = l := by
  cases l with
  | nil => rfl
  | cons d r =>
    have h : d ≠ 32 ∧ d ≠ 10 ∧ d ≠ 9 ∧ d ≠ 13 := h
    unfold Js.ws
    rw [List.dropWhile_cons, if_neg]
    unfold Js.blank
    simp [h.1, h.2.1, h.2.2.1, h.2.2.2]
set_option maxRecDepth 100000 in
set_option maxHeartbeats 2000000 in
theorem Jr.blanks (l : List UInt8) (g : Nat) (T : ByteArray) (w : World) (h : Jr.Rd w g T l) :
    Calls Tryz.prog 50 #[.pointer (some ⟨g, 0, none⟩)] w fun e w' => e = .returned (.tuple #[]) ∧ w.grownBy w' (some g) ∧ Jr.Rd w' g T (Js.ws l) := by
  have s32 : ∀ l u, Jr.Rd u g T l → Calls Tryz.prog 75 #[.pointer (some ⟨g, 0, none⟩), .int .u8 32] u fun e w' => e = .returned (.bool (decide (l.headD 0 = 32))) ∧ u.grownBy w' (some g) ∧ Jr.Rd w' g T (if l.headD 0 = 32 then l.tail else l) := fun l u h => Jr.skip 32 (by decide) l g T u h
  have s10 : ∀ l u, Jr.Rd u g T l → Calls Tryz.prog 75 #[.pointer (some ⟨g, 0, none⟩), .int .u8 10] u fun e w' => e = .returned (.bool (decide (l.headD 0 = 10))) ∧ u.grownBy w' (some g) ∧ Jr.Rd w' g T (if l.headD 0 = 10 then l.tail else l) := fun l u h => Jr.skip 10 (by decide) l g T u h
  have s9 : ∀ l u, Jr.Rd u g T l → Calls Tryz.prog 75 #[.pointer (some ⟨g, 0, none⟩), .int .u8 9] u fun e w' => e = .returned (.bool (decide (l.headD 0 = 9))) ∧ u.grownBy w' (some g) ∧ Jr.Rd w' g T (if l.headD 0 = 9 then l.tail else l) := fun l u h => Jr.skip 9 (by decide) l g T u h
  have s13 : ∀ l u, Jr.Rd u g T l → Calls Tryz.prog 75 #[.pointer (some ⟨g, 0, none⟩), .int .u8 13] u fun e w' => e = .returned (.bool (decide (l.headD 0 = 13))) ∧ u.grownBy w' (some g) ∧ Jr.Rd w' g T (if l.headD 0 = 13 then l.tail else l) := fun l u h => Jr.skip 13 (by decide) l g T u h
  obtain ⟨W, hW⟩ : ∃ W, Js.ws l = W := ⟨_, rfl⟩
  rw [hW]
  have HW := Lib.hid hW
  have HR := Lib.hid h
  clear hW h
  obtain ⟨rem, hrem⟩ : ∃ rem : World → Nat, rem = fun u => T.size - (match u.cell? ⟨g, 1, none⟩ with | some v => (intOf v).toNat | none => 0) := ⟨_, rfl⟩
  have HM : Hid (∀ (u : World) (l : List UInt8), Jr.Rd u g T l → rem u = l.length) := by
    intro u l hR
    obtain ⟨i, h1, h2, h3, hB⟩ := hR
    have c1 : u.cell? ⟨g, 1, none⟩ = some (.int .i64 (i : Int)) := hB.cell 1 rfl
    rw [hrem, ← h2, List.length_drop, Wk.len_data]
    simp only [c1]
    simp [intOf]
  clear hrem
  go_enter Tryz.func50, Tryz.ntmps50
  go_wp2_with fail
  go_loopw [] (fun wr => ∃ l' : List UInt8, Hid (Js.ws l' = W) ∧ Hid (Jr.Rd wr g T l') ∧ Hid (w.grownBy wr (some g))) (fun wr => rem wr)
  case atStart => exact ⟨l, HW, HR, World.grownBy.refl _ _⟩
  case round =>
    clear HW HR
    obtain ⟨l', HW, HR, HG⟩ := hrel
    have HL := Lib.hid (HM.out _ _ HR.out)
    by_cases h32 : l'.headD 0 = 32
    · have t1 := s32 l' _ HR.out
      rw [decide_eq_true h32, if_pos h32] at t1
      have HS := Lib.hid (Jr.ws_skip h32 (by decide))
      clear h32 s32 s10 s9 s13
      go_wp2_with (go_at_call 75; refine t1.mono ?_; rintro e w1 ⟨rfl, b1, r1⟩; have HB1 := Lib.hid (Jr.grown_trans HG.out b1); have HR1 := Lib.hid r1; clear b1 r1)
      go_roundw
      case rel => exact ⟨l'.tail, HS.out.1.trans HW.out, HR1, HB1⟩
      case measure => rw [HM.out _ _ HR1.out, HL.out]; exact HS.out.2
    · have t1 := s32 l' _ HR.out
      rw [decide_eq_false h32, if_neg h32] at t1
      have t2 := s10 l'
      by_cases h10 : l'.headD 0 = 10
      · rw [decide_eq_true h10, if_pos h10] at t2
        have HS := Lib.hid (Jr.ws_skip h10 (by decide))
        clear h32 h10 s32 s10 s9 s13
        go_wp2_with (first | (go_at_call_of 75 (Value.int .u8 32); refine t1.mono ?_; rintro e w1 ⟨rfl, b1, r1⟩; have HB1 := Lib.hid (Jr.grown_trans HG.out b1); replace t2 := t2 _ r1; clear b1 r1) | (go_at_call_of 75 (Value.int .u8 10); refine t2.mono ?_; rintro e w2 ⟨rfl, b2, r2⟩; have HB2 := Lib.hid (Jr.grown_trans HB1.out b2); have HR2 := Lib.hid r2; clear b2 r2))
        go_roundw
        case rel => exact ⟨l'.tail, HS.out.1.trans HW.out, HR2, HB2⟩
        case measure => rw [HM.out _ _ HR2.out, HL.out]; exact HS.out.2
      · rw [decide_eq_false h10, if_neg h10] at t2
        have t3 := s9 l'
        by_cases h9 : l'.headD 0 = 9
        · rw [decide_eq_true h9, if_pos h9] at t3
          have HS := Lib.hid (Jr.ws_skip h9 (by decide))
          clear h32 h10 h9 s32 s10 s9 s13
          go_wp2_with (first | (go_at_call_of 75 (Value.int .u8 32); refine t1.mono ?_; rintro e w1 ⟨rfl, b1, r1⟩; have HB1 := Lib.hid (Jr.grown_trans HG.out b1); replace t2 := t2 _ r1; clear b1 r1) | (go_at_call_of 75 (Value.int .u8 10); refine t2.mono ?_; rintro e w2 ⟨rfl, b2, r2⟩; have HB2 := Lib.hid (Jr.grown_trans HB1.out b2); replace t3 := t3 _ r2; clear b2 r2) | (go_at_call_of 75 (Value.int .u8 9); refine t3.mono ?_; rintro e w3 ⟨rfl, b3, r3⟩; have HB3 := Lib.hid (Jr.grown_trans HB2.out b3); have HR3 := Lib.hid r3; clear b3 r3))
          go_roundw
          case rel => exact ⟨l'.tail, HS.out.1.trans HW.out, HR3, HB3⟩
          case measure => rw [HM.out _ _ HR3.out, HL.out]; exact HS.out.2
        · rw [decide_eq_false h9, if_neg h9] at t3
          have t4 := s13 l'
          by_cases h13 : l'.headD 0 = 13
          · rw [decide_eq_true h13, if_pos h13] at t4
            have HS := Lib.hid (Jr.ws_skip h13 (by decide))
            clear h32 h10 h9 h13 s32 s10 s9 s13
            go_wp2_with (first | (go_at_call_of 75 (Value.int .u8 32); refine t1.mono ?_; rintro e w1 ⟨rfl, b1, r1⟩; have HB1 := Lib.hid (Jr.grown_trans HG.out b1); replace t2 := t2 _ r1; clear b1 r1) | (go_at_call_of 75 (Value.int .u8 10); refine t2.mono ?_; rintro e w2 ⟨rfl, b2, r2⟩; have HB2 := Lib.hid (Jr.grown_trans HB1.out b2); replace t3 := t3 _ r2; clear b2 r2) | (go_at_call_of 75 (Value.int .u8 9); refine t3.mono ?_; rintro e w3 ⟨rfl, b3, r3⟩; have HB3 := Lib.hid (Jr.grown_trans HB2.out b3); replace t4 := t4 _ r3; clear b3 r3) | (go_at_call_of 75 (Value.int .u8 13); refine t4.mono ?_; rintro e w4 ⟨rfl, b4, r4⟩; have HB4 := Lib.hid (Jr.grown_trans HB3.out b4); have HR4 := Lib.hid r4; clear b4 r4))
            go_roundw
            case rel => exact ⟨l'.tail, HS.out.1.trans HW.out, HR4, HB4⟩
            case measure => rw [HM.out _ _ HR4.out, HL.out]; exact HS.out.2
          · rw [decide_eq_false h13, if_neg h13] at t4
            have HS := Lib.hid (Jr.ws_stop ⟨h32, h10, h9, h13⟩)
            clear h32 h10 h9 h13 s32 s10 s9 s13
            go_wp2_with (first | (go_at_call_of 75 (Value.int .u8 32); refine t1.mono ?_; rintro e w1 ⟨rfl, b1, r1⟩; have HB1 := Lib.hid (Jr.grown_trans HG.out b1); replace t2 := t2 _ r1; clear b1 r1) | (go_at_call_of 75 (Value.int .u8 10); refine t2.mono ?_; rintro e w2 ⟨rfl, b2, r2⟩; have HB2 := Lib.hid (Jr.grown_trans HB1.out b2); replace t3 := t3 _ r2; clear b2 r2) | (go_at_call_of 75 (Value.int .u8 9); refine t3.mono ?_; rintro e w3 ⟨rfl, b3, r3⟩; have HB3 := Lib.hid (Jr.grown_trans HB2.out b3); replace t4 := t4 _ r3; clear b3 r3) | (go_at_call_of 75 (Value.int .u8 13); refine t4.mono ?_; rintro e w4 ⟨rfl, b4, r4⟩; have HB4 := Lib.hid (Jr.grown_trans HB3.out b4); have HR4 := Lib.hid r4; clear b4 r4))
            go_end0
            refine ⟨rfl, HB4.out, ?_⟩
            rw [← HW.out, HS.out]
            exact HR4.out
end Go.Proofs.YtboalkfagfgnpaaGreatDoor

/-
  THE WALK of readAction.
-/
import Derived.Test.YtjppobeomocgbaaGreatDoorTMFittoNMark
namespace Go.Proofs.YtjppobeomocgbaaGreatDoor
open Go.RowKit
theorem Mz.act_eq (s : Mz.St) (x : Wo) (rest : List Wo) {w : List UInt8} (h : Mz.name x = w) : s.action (x :: rest) =
    if w = Tm.sIf then s.block 3 rest else if w = Tm.sWith then s.block 4 rest else if w = Tm.sRange then s.block 5 rest
    else if w = Tm.sElse ∨ w = Tm.sEnd ∨ w = Tm.sBreak ∨ w = Tm.sCont then if 1 < (x :: rest).length then .error 1604 else s.mark w
    else if w = Tm.sTmpl then s.call rest
    else match (x :: rest) with
    | x :: y :: rest => if x.kind = 2 ∧ x.path = [] ∧ y.kind = 6 then s.asked 2 x.text rest else s.asked 1 [] (x :: y :: rest)
    | ws => s.asked 1 [] ws := by
  subst h
  cases rest <;> rfl
set_option maxRecDepth 100000 in
set_option maxHeartbeats 8000000 in
theorem Ml.act_If {base g : Nat} {w : World} {s : Mz.St} {x : Wo} {rest : List Wo} {b o d : Nat} {R : Nat → Prop} (h : Ml.Is base w g s) (hlo : base ≤ w.heap.size) (_hf : s.Few 1048576) (hl : Wo.Lies w R (x :: rest) (.slice (some ⟨b, o, none⟩) (rest.length + 1) d)) (hz : Wi.Fits ((x :: rest).map Wo.wi)) (h1 : rest.length + 1 ≤ d) (h2 : d ≤ 9223372036854775807) (hk : Mz.name x = Tm.sIf) :
    Calls Tryz.prog 28 #[.pointer (some ⟨g, 0, none⟩), .slice (some ⟨b, o, none⟩) (rest.length + 1) d] w (Ml.Out base w g (s.action (x :: rest))) := by
  obtain ⟨pa, pd, c0, c1, c2, c3⟩ := Ml.at hl (i := 0) (x := x) rfl
  rw [show o + 0 * 4 = o by omega] at c0 c1 c2 c3
  have g3 : (0 : Int) < (rest.length : Int) + 1 := by omega
  have g5 : (1 : Int) ≤ (rest.length : Int) + 1 := by omega
  have nm := Ml.nameOf x pa x.path.length pd w
  have hcut := Ml.drop hl 1 (by simp)
  rw [hk] at nm
  have hTl : (⟨#[105, 102]⟩ : ByteArray).data.toList = Tm.sIf := rfl
  have nm : Calls Tryz.prog 54 #[.agg #[.int .i64 (x.kind : Int), .string ⟨x.text.toArray⟩, .slice pa x.path.length pd, .int .i64 x.num]] w fun e w' => e = .returned (.string ⟨#[105, 102]⟩) ∧ Below w.heap.size w w' := nm
  have hR : s.action (x :: rest) = s.block 3 rest := by
    rw [Mz.act_eq s x rest hk]
    rw [if_pos rfl]
  rw [hR]
  by_cases hd : d = 1
  · subst hd
    have hr0 : rest = [] := List.eq_nil_of_length_eq_zero (by omega)
    subst hr0
    rw [show Ml.cut b o ([x] : List Wo).length 1 1 = .slice (some ⟨b, o, none⟩) 0 0 from rfl] at hcut
    have HC : Hid (∀ u : World, Below w.heap.size w u → Calls Tryz.prog 55 #[.pointer (some ⟨g, 0, none⟩), .int .i64 3, .slice (some ⟨b, o, none⟩) 0 0] u (Ml.Out base u g (s.block 3 []))) := fun u hb => Ml.block (R := fun _ => True) (h.on hb) (Nat.le_trans hlo hb.size) (hcut.later hb) (hz.drop 1)
    generalize s.block 3 [] = Z at *
    clear h hl hz hcut hk hTl hR
    go_enter Tryz.func28, Tryz.ntmps28
    go_wp2_with (first | (go_at_call 54; refine nm.mono ?_; rintro e w1 ⟨rfl, b1⟩; have HB1 := Lib.hid b1; clear b1 nm) | (go_at_call 55; refine (HC.out _ HB1.out).mono ?_; rintro e w4 ⟨b4, rfl, n4, i4⟩; have HI4 := Lib.hid i4; have HN4 := Lib.hid n4; have HB5 := Lib.hid ((HB1.out.mono hlo).trans b4); clear i4 b4 n4))
    go_ret
    exact .same HB5.out HN4.out HI4.out
  · have hd2 : 1 < d := by omega
    rw [show Ml.cut b o (x :: rest).length d 1 = .slice (some ⟨b, o + 4, none⟩) rest.length (d - 1) from if_neg hd] at hcut
    have HC : Hid (∀ u : World, Below w.heap.size w u → Calls Tryz.prog 55 #[.pointer (some ⟨g, 0, none⟩), .int .i64 3, .slice (some ⟨b, o + 4, none⟩) rest.length (d - 1)] u (Ml.Out base u g (s.block 3 rest))) := fun u hb => Ml.block (R := fun _ => True) (h.on hb) (Nat.le_trans hlo hb.size) (hcut.later hb) (hz.drop 1)
    generalize s.block 3 rest = Z at *
    clear h hl hz hcut hk hTl hR
    go_enter Tryz.func28, Tryz.ntmps28
    go_wp2_with (first | (go_at_call 54; refine nm.mono ?_; rintro e w1 ⟨rfl, b1⟩; have HB1 := Lib.hid b1; clear b1 nm) | (go_at_call 55; refine (HC.out _ HB1.out).mono ?_; rintro e w4 ⟨b4, rfl, n4, i4⟩; have HI4 := Lib.hid i4; have HN4 := Lib.hid n4; have HB5 := Lib.hid ((HB1.out.mono hlo).trans b4); clear i4 b4 n4))
    go_ret
    exact .same HB5.out HN4.out HI4.out
set_option maxRecDepth 100000 in
set_option maxHeartbeats 8000000 in
theorem Ml.act_With {base g : Nat} {w : World} {s : Mz.St} {x : Wo} {rest : List Wo} {b o d : Nat} {R : Nat → Prop} (h : Ml.Is base w g s) (hlo : base ≤ w.heap.size) (_hf : s.Few 1048576) (hl : Wo.Lies w R (x :: rest) (.slice (some ⟨b, o, none⟩) (rest.length + 1) d)) (hz : Wi.Fits ((x :: rest).map Wo.wi)) (h1 : rest.length + 1 ≤ d) (h2 : d ≤ 9223372036854775807) (hk : Mz.name x = Tm.sWith) :
    Calls Tryz.prog 28 #[.pointer (some ⟨g, 0, none⟩), .slice (some ⟨b, o, none⟩) (rest.length + 1) d] w (Ml.Out base w g (s.action (x :: rest))) := by
  obtain ⟨pa, pd, c0, c1, c2, c3⟩ := Ml.at hl (i := 0) (x := x) rfl
  rw [show o + 0 * 4 = o by omega] at c0 c1 c2 c3
  have g3 : (0 : Int) < (rest.length : Int) + 1 := by omega
  have g5 : (1 : Int) ≤ (rest.length : Int) + 1 := by omega
  have nm := Ml.nameOf x pa x.path.length pd w
  have hcut := Ml.drop hl 1 (by simp)
  rw [hk] at nm
  have hTl : (⟨#[119, 105, 116, 104]⟩ : ByteArray).data.toList = Tm.sWith := rfl
  have nm : Calls Tryz.prog 54 #[.agg #[.int .i64 (x.kind : Int), .string ⟨x.text.toArray⟩, .slice pa x.path.length pd, .int .i64 x.num]] w fun e w' => e = .returned (.string ⟨#[119, 105, 116, 104]⟩) ∧ Below w.heap.size w w' := nm
  have hR : s.action (x :: rest) = s.block 4 rest := by
    rw [Mz.act_eq s x rest hk]
    rw [if_neg (by decide), if_pos rfl]
  rw [hR]
  by_cases hd : d = 1
  · subst hd
    have hr0 : rest = [] := List.eq_nil_of_length_eq_zero (by omega)
    subst hr0
    rw [show Ml.cut b o ([x] : List Wo).length 1 1 = .slice (some ⟨b, o, none⟩) 0 0 from rfl] at hcut
    have HC : Hid (∀ u : World, Below w.heap.size w u → Calls Tryz.prog 55 #[.pointer (some ⟨g, 0, none⟩), .int .i64 4, .slice (some ⟨b, o, none⟩) 0 0] u (Ml.Out base u g (s.block 4 []))) := fun u hb => Ml.block (R := fun _ => True) (h.on hb) (Nat.le_trans hlo hb.size) (hcut.later hb) (hz.drop 1)
    generalize s.block 4 [] = Z at *
    clear h hl hz hcut hk hTl hR
    go_enter Tryz.func28, Tryz.ntmps28
    go_wp2_with (first | (go_at_call 54; refine nm.mono ?_; rintro e w1 ⟨rfl, b1⟩; have HB1 := Lib.hid b1; clear b1 nm) | (go_at_call 55; refine (HC.out _ HB1.out).mono ?_; rintro e w4 ⟨b4, rfl, n4, i4⟩; have HI4 := Lib.hid i4; have HN4 := Lib.hid n4; have HB5 := Lib.hid ((HB1.out.mono hlo).trans b4); clear i4 b4 n4))
    go_ret
    exact .same HB5.out HN4.out HI4.out
  · have hd2 : 1 < d := by omega
    rw [show Ml.cut b o (x :: rest).length d 1 = .slice (some ⟨b, o + 4, none⟩) rest.length (d - 1) from if_neg hd] at hcut
    have HC : Hid (∀ u : World, Below w.heap.size w u → Calls Tryz.prog 55 #[.pointer (some ⟨g, 0, none⟩), .int .i64 4, .slice (some ⟨b, o + 4, none⟩) rest.length (d - 1)] u (Ml.Out base u g (s.block 4 rest))) := fun u hb => Ml.block (R := fun _ => True) (h.on hb) (Nat.le_trans hlo hb.size) (hcut.later hb) (hz.drop 1)
    generalize s.block 4 rest = Z at *
    clear h hl hz hcut hk hTl hR
    go_enter Tryz.func28, Tryz.ntmps28
    go_wp2_with (first | (go_at_call 54; refine nm.mono ?_; rintro e w1 ⟨rfl, b1⟩; have HB1 := Lib.hid b1; clear b1 nm) | (go_at_call 55; refine (HC.out _ HB1.out).mono ?_; rintro e w4 ⟨b4, rfl, n4, i4⟩; have HI4 := Lib.hid i4; have HN4 := Lib.hid n4; have HB5 := Lib.hid ((HB1.out.mono hlo).trans b4); clear i4 b4 n4))
    go_ret
    exact .same HB5.out HN4.out HI4.out
set_option maxRecDepth 100000 in
set_option maxHeartbeats 8000000 in
theorem Ml.act_Range {base g : Nat} {w : World} {s : Mz.St} {x : Wo} {rest : List Wo} {b o d : Nat} {R : Nat → Prop} (h : Ml.Is base w g s) (hlo : base ≤ w.heap.size) (_hf : s.Few 1048576) (hl : Wo.Lies w R (x :: rest) (.slice (some ⟨b, o, none⟩) (rest.length + 1) d)) (hz : Wi.Fits ((x :: rest).map Wo.wi)) (h1 : rest.length + 1 ≤ d) (h2 : d ≤ 9223372036854775807) (hk : Mz.name x = Tm.sRange) :
    Calls Tryz.prog 28 #[.pointer (some ⟨g, 0, none⟩), .slice (some ⟨b, o, none⟩) (rest.length + 1) d] w (Ml.Out base w g (s.action (x :: rest))) := by
  obtain ⟨pa, pd, c0, c1, c2, c3⟩ := Ml.at hl (i := 0) (x := x) rfl
  rw [show o + 0 * 4 = o by omega] at c0 c1 c2 c3
  have g3 : (0 : Int) < (rest.length : Int) + 1 := by omega
  have g5 : (1 : Int) ≤ (rest.length : Int) + 1 := by omega
  have nm := Ml.nameOf x pa x.path.length pd w
  have hcut := Ml.drop hl 1 (by simp)
  rw [hk] at nm
  have hTl : (⟨#[114, 97, 110, 103, 101]⟩ : ByteArray).data.toList = Tm.sRange := rfl
  have nm : Calls Tryz.prog 54 #[.agg #[.int .i64 (x.kind : Int), .string ⟨x.text.toArray⟩, .slice pa x.path.length pd, .int .i64 x.num]] w fun e w' => e = .returned (.string ⟨#[114, 97, 110, 103, 101]⟩) ∧ Below w.heap.size w w' := nm
  have hR : s.action (x :: rest) = s.block 5 rest := by
    rw [Mz.act_eq s x rest hk]
    rw [if_neg (by decide), if_neg (by decide), if_pos rfl]
  rw [hR]
  by_cases hd : d = 1
  · subst hd
    have hr0 : rest = [] := List.eq_nil_of_length_eq_zero (by omega)
    subst hr0
    rw [show Ml.cut b o ([x] : List Wo).length 1 1 = .slice (some ⟨b, o, none⟩) 0 0 from rfl] at hcut
    have HC : Hid (∀ u : World, Below w.heap.size w u → Calls Tryz.prog 55 #[.pointer (some ⟨g, 0, none⟩), .int .i64 5, .slice (some ⟨b, o, none⟩) 0 0] u (Ml.Out base u g (s.block 5 []))) := fun u hb => Ml.block (R := fun _ => True) (h.on hb) (Nat.le_trans hlo hb.size) (hcut.later hb) (hz.drop 1)
    generalize s.block 5 [] = Z at *
    clear h hl hz hcut hk hTl hR
    go_enter Tryz.func28, Tryz.ntmps28
    go_wp2_with (first | (go_at_call 54; refine nm.mono ?_; rintro e w1 ⟨rfl, b1⟩; have HB1 := Lib.hid b1; clear b1 nm) | (go_at_call 55; refine (HC.out _ HB1.out).mono ?_; rintro e w4 ⟨b4, rfl, n4, i4⟩; have HI4 := Lib.hid i4; have HN4 := Lib.hid n4; have HB5 := Lib.hid ((HB1.out.mono hlo).trans b4); clear i4 b4 n4))
    go_ret
    exact .same HB5.out HN4.out HI4.out
  · have hd2 : 1 < d := by omega
    rw [show Ml.cut b o (x :: rest).length d 1 = .slice (some ⟨b, o + 4, none⟩) rest.length (d - 1) from if_neg hd] at hcut
    have HC : Hid (∀ u : World, Below w.heap.size w u → Calls Tryz.prog 55 #[.pointer (some ⟨g, 0, none⟩), .int .i64 5, .slice (some ⟨b, o + 4, none⟩) rest.length (d - 1)] u (Ml.Out base u g (s.block 5 rest))) := fun u hb => Ml.block (R := fun _ => True) (h.on hb) (Nat.le_trans hlo hb.size) (hcut.later hb) (hz.drop 1)
    generalize s.block 5 rest = Z at *
    clear h hl hz hcut hk hTl hR
    go_enter Tryz.func28, Tryz.ntmps28
    go_wp2_with (first | (go_at_call 54; refine nm.mono ?_; rintro e w1 ⟨rfl, b1⟩; have HB1 := Lib.hid b1; clear b1 nm) | (go_at_call 55; refine (HC.out _ HB1.out).mono ?_; rintro e w4 ⟨b4, rfl, n4, i4⟩; have HI4 := Lib.hid i4; have HN4 := Lib.hid n4; have HB5 := Lib.hid ((HB1.out.mono hlo).trans b4); clear i4 b4 n4))
    go_ret
    exact .same HB5.out HN4.out HI4.out
set_option maxRecDepth 100000 in
set_option maxHeartbeats 8000000 in
theorem Ml.act_Else {base g : Nat} {w : World} {s : Mz.St} {x : Wo} {rest : List Wo} {b o d : Nat} {R : Nat → Prop} (h : Ml.Is base w g s) (hlo : base ≤ w.heap.size) (hf : s.Few 1048576) (hl : Wo.Lies w R (x :: rest) (.slice (some ⟨b, o, none⟩) (rest.length + 1) d)) (hz : Wi.Fits ((x :: rest).map Wo.wi)) (h1 : rest.length + 1 ≤ d) (h2 : d ≤ 9223372036854775807) (hk : Mz.name x = Tm.sElse) :
    Calls Tryz.prog 28 #[.pointer (some ⟨g, 0, none⟩), .slice (some ⟨b, o, none⟩) (rest.length + 1) d] w (Ml.Out base w g (s.action (x :: rest))) := by
  obtain ⟨pa, pd, c0, c1, c2, c3⟩ := Ml.at hl (i := 0) (x := x) rfl
  rw [show o + 0 * 4 = o by omega] at c0 c1 c2 c3
  have g3 : (0 : Int) < (rest.length : Int) + 1 := by omega
  have g5 : (1 : Int) ≤ (rest.length : Int) + 1 := by omega
  have nm := Ml.nameOf x pa x.path.length pd w
  have hcut := Ml.drop hl 1 (by simp)
  rw [hk] at nm
  have hTl : (⟨#[101, 108, 115, 101]⟩ : ByteArray).data.toList = Tm.sElse := rfl
  have nm : Calls Tryz.prog 54 #[.agg #[.int .i64 (x.kind : Int), .string ⟨x.text.toArray⟩, .slice pa x.path.length pd, .int .i64 x.num]] w fun e w' => e = .returned (.string ⟨#[101, 108, 115, 101]⟩) ∧ Below w.heap.size w w' := nm
  have hR : s.action (x :: rest) = if 1 < (x :: rest).length then .error 1604 else s.mark Tm.sElse := by
    rw [Mz.act_eq s x rest hk]
    rw [if_neg (by decide), if_neg (by decide), if_neg (by decide), if_pos (by decide)]
  rw [hR]
  by_cases hr : rest = []
  · subst hr
    rw [if_neg (by simp)]
    have HC : Hid (∀ u : World, Below w.heap.size w u → Calls Tryz.prog 56 #[.pointer (some ⟨g, 0, none⟩), .string ⟨#[101, 108, 115, 101]⟩] u (Ml.Out base u g (s.mark Tm.sElse))) := fun u hb => Ml.mark ⟨#[101, 108, 115, 101]⟩ (h.on hb) (Nat.le_trans hlo hb.size) hf
    generalize s.mark Tm.sElse = Z at *
    clear h hf hl hz hcut hk hTl hR
    by_cases hd : d = 1
    · subst hd
      go_enter Tryz.func28, Tryz.ntmps28
      go_wp2_with (first | (go_at_call 54; refine nm.mono ?_; rintro e w1 ⟨rfl, b1⟩; have HB1 := Lib.hid b1; clear b1 nm) | (go_at_call 56; refine (HC.out _ HB1.out).mono ?_; rintro e w4 ⟨b4, rfl, n4, i4⟩; have HI4 := Lib.hid i4; have HN4 := Lib.hid n4; have HB5 := Lib.hid ((HB1.out.mono hlo).trans b4); clear i4 b4 n4))
      go_ret
      exact .same HB5.out HN4.out HI4.out
    · have hd2 : 1 < d := by have : 1 ≤ d := h1; omega
      go_enter Tryz.func28, Tryz.ntmps28
      go_wp2_with (first | (go_at_call 54; refine nm.mono ?_; rintro e w1 ⟨rfl, b1⟩; have HB1 := Lib.hid b1; clear b1 nm) | (go_at_call 56; refine (HC.out _ HB1.out).mono ?_; rintro e w4 ⟨b4, rfl, n4, i4⟩; have HI4 := Lib.hid i4; have HN4 := Lib.hid n4; have HB5 := Lib.hid ((HB1.out.mono hlo).trans b4); clear i4 b4 n4))
      go_ret
      exact .same HB5.out HN4.out HI4.out
  · have hrl : 0 < rest.length := List.length_pos_iff.2 hr
    rw [if_pos (by simp; omega)]
    have hd : ¬ d = 1 := by omega
    have hd2 : 1 < d := by omega
    have g7 : decide ((0 : Int) < (rest.length : Int)) = true := decide_eq_true (by omega)
    clear h hf hl hz hcut hk hTl hR hr
    go_enter Tryz.func28, Tryz.ntmps28
    go_wp2_with (go_at_call 54; refine nm.mono ?_; rintro e w1 ⟨rfl, b1⟩; have HB1 := Lib.hid b1; clear b1 nm)
    go_ret
    exact .err (HB1.out.mono hlo) (by decide)
set_option maxRecDepth 100000 in
set_option maxHeartbeats 8000000 in
theorem Ml.act_End {base g : Nat} {w : World} {s : Mz.St} {x : Wo} {rest : List Wo} {b o d : Nat} {R : Nat → Prop} (h : Ml.Is base w g s) (hlo : base ≤ w.heap.size) (hf : s.Few 1048576) (hl : Wo.Lies w R (x :: rest) (.slice (some ⟨b, o, none⟩) (rest.length + 1) d)) (hz : Wi.Fits ((x :: rest).map Wo.wi)) (h1 : rest.length + 1 ≤ d) (h2 : d ≤ 9223372036854775807) (hk : Mz.name x = Tm.sEnd) :
    Calls Tryz.prog 28 #[.pointer (some ⟨g, 0, none⟩), .slice (some ⟨b, o, none⟩) (rest.length + 1) d] w (Ml.Out base w g (s.action (x :: rest))) := by
  obtain ⟨pa, pd, c0, c1, c2, c3⟩ := Ml.at hl (i := 0) (x := x) rfl
  rw [show o + 0 * 4 = o by omega] at c0 c1 c2 c3
  have g3 : (0 : Int) < (rest.length : Int) + 1 := by omega
  have g5 : (1 : Int) ≤ (rest.length : Int) + 1 := by omega
  have nm := Ml.nameOf x pa x.path.length pd w
  have hcut := Ml.drop hl 1 (by simp)
  rw [hk] at nm
  have hTl : (⟨#[101, 110, 100]⟩ : ByteArray).data.toList = Tm.sEnd := rfl
  have nm : Calls Tryz.prog 54 #[.agg #[.int .i64 (x.kind : Int), .string ⟨x.text.toArray⟩, .slice pa x.path.length pd, .int .i64 x.num]] w fun e w' => e = .returned (.string ⟨#[101, 110, 100]⟩) ∧ Below w.heap.size w w' := nm
  have hR : s.action (x :: rest) = if 1 < (x :: rest).length then .error 1604 else s.mark Tm.sEnd := by
    rw [Mz.act_eq s x rest hk]
    rw [if_neg (by decide), if_neg (by decide), if_neg (by decide), if_pos (by decide)]
  rw [hR]
  by_cases hr : rest = []
  · subst hr
    rw [if_neg (by simp)]
    have HC : Hid (∀ u : World, Below w.heap.size w u → Calls Tryz.prog 56 #[.pointer (some ⟨g, 0, none⟩), .string ⟨#[101, 110, 100]⟩] u (Ml.Out base u g (s.mark Tm.sEnd))) := fun u hb => Ml.mark ⟨#[101, 110, 100]⟩ (h.on hb) (Nat.le_trans hlo hb.size) hf
    generalize s.mark Tm.sEnd = Z at *
    clear h hf hl hz hcut hk hTl hR
    by_cases hd : d = 1
    · subst hd
      go_enter Tryz.func28, Tryz.ntmps28
      go_wp2_with (first | (go_at_call 54; refine nm.mono ?_; rintro e w1 ⟨rfl, b1⟩; have HB1 := Lib.hid b1; clear b1 nm) | (go_at_call 56; refine (HC.out _ HB1.out).mono ?_; rintro e w4 ⟨b4, rfl, n4, i4⟩; have HI4 := Lib.hid i4; have HN4 := Lib.hid n4; have HB5 := Lib.hid ((HB1.out.mono hlo).trans b4); clear i4 b4 n4))
      go_ret
      exact .same HB5.out HN4.out HI4.out
    · have hd2 : 1 < d := by have : 1 ≤ d := h1; omega
      go_enter Tryz.func28, Tryz.ntmps28
      go_wp2_with (first | (go_at_call 54; refine nm.mono ?_; rintro e w1 ⟨rfl, b1⟩; have HB1 := Lib.hid b1; clear b1 nm) | (go_at_call 56; refine (HC.out _ HB1.out).mono ?_; rintro e w4 ⟨b4, rfl, n4, i4⟩; have HI4 := Lib.hid i4; have HN4 := Lib.hid n4; have HB5 := Lib.hid ((HB1.out.mono hlo).trans b4); clear i4 b4 n4))
      go_ret
      exact .same HB5.out HN4.out HI4.out
  · have hrl : 0 < rest.length := List.length_pos_iff.2 hr
    rw [if_pos (by simp; omega)]
    have hd : ¬ d = 1 := by omega
    have hd2 : 1 < d := by omega
    have g7 : decide ((0 : Int) < (rest.length : Int)) = true := decide_eq_true (by omega)
    clear h hf hl hz hcut hk hTl hR hr
    go_enter Tryz.func28, Tryz.ntmps28
    go_wp2_with (go_at_call 54; refine nm.mono ?_; rintro e w1 ⟨rfl, b1⟩; have HB1 := Lib.hid b1; clear b1 nm)
    go_ret
    exact .err (HB1.out.mono hlo) (by decide)
set_option maxRecDepth 100000 in
set_option maxHeartbeats 8000000 in
theorem Ml.act_Break {base g : Nat} {w : World} {s : Mz.St} {x : Wo} {rest : List Wo} {b o d : Nat} {R : Nat → Prop} (h : Ml.Is base w g s) (hlo : base ≤ w.heap.size) (hf : s.Few 1048576) (hl : Wo.Lies w R (x :: rest) (.slice (some ⟨b, o, none⟩) (rest.length + 1) d)) (hz : Wi.Fits ((x :: rest).map Wo.wi)) (h1 : rest.length + 1 ≤ d) (h2 : d ≤ 9223372036854775807) (hk : Mz.name x = Tm.sBreak) :
    Calls Tryz.prog 28 #[.pointer (some ⟨g, 0, none⟩), .slice (some ⟨b, o, none⟩) (rest.length + 1) d] w (Ml.Out base w g (s.action (x :: rest))) := by
  obtain ⟨pa, pd, c0, c1, c2, c3⟩ := Ml.at hl (i := 0) (x := x) rfl
  rw [show o + 0 * 4 = o by omega] at c0 c1 c2 c3
  have g3 : (0 : Int) < (rest.length : Int) + 1 := by omega
  have g5 : (1 : Int) ≤ (rest.length : Int) + 1 := by omega
  have nm := Ml.nameOf x pa x.path.length pd w
  have hcut := Ml.drop hl 1 (by simp)
  rw [hk] at nm
  have hTl : (⟨#[98, 114, 101, 97, 107]⟩ : ByteArray).data.toList = Tm.sBreak := rfl
  have nm : Calls Tryz.prog 54 #[.agg #[.int .i64 (x.kind : Int), .string ⟨x.text.toArray⟩, .slice pa x.path.length pd, .int .i64 x.num]] w fun e w' => e = .returned (.string ⟨#[98, 114, 101, 97, 107]⟩) ∧ Below w.heap.size w w' := nm
  have hR : s.action (x :: rest) = if 1 < (x :: rest).length then .error 1604 else s.mark Tm.sBreak := by
    rw [Mz.act_eq s x rest hk]
    rw [if_neg (by decide), if_neg (by decide), if_neg (by decide), if_pos (by decide)]
  rw [hR]
  by_cases hr : rest = []
  · subst hr
    rw [if_neg (by simp)]
    have HC : Hid (∀ u : World, Below w.heap.size w u → Calls Tryz.prog 56 #[.pointer (some ⟨g, 0, none⟩), .string ⟨#[98, 114, 101, 97, 107]⟩] u (Ml.Out base u g (s.mark Tm.sBreak))) := fun u hb => Ml.mark ⟨#[98, 114, 101, 97, 107]⟩ (h.on hb) (Nat.le_trans hlo hb.size) hf
    generalize s.mark Tm.sBreak = Z at *
    clear h hf hl hz hcut hk hTl hR
    by_cases hd : d = 1
    · subst hd
      go_enter Tryz.func28, Tryz.ntmps28
      go_wp2_with (first | (go_at_call 54; refine nm.mono ?_; rintro e w1 ⟨rfl, b1⟩; have HB1 := Lib.hid b1; clear b1 nm) | (go_at_call 56; refine (HC.out _ HB1.out).mono ?_; rintro e w4 ⟨b4, rfl, n4, i4⟩; have HI4 := Lib.hid i4; have HN4 := Lib.hid n4; have HB5 := Lib.hid ((HB1.out.mono hlo).trans b4); clear i4 b4 n4))
      go_ret
      exact .same HB5.out HN4.out HI4.out
    · have hd2 : 1 < d := by have : 1 ≤ d := h1; omega
      go_enter Tryz.func28, Tryz.ntmps28
      go_wp2_with (first | (go_at_call 54; refine nm.mono ?_; rintro e w1 ⟨rfl, b1⟩; have HB1 := Lib.hid b1; clear b1 nm) | (go_at_call 56; refine (HC.out _ HB1.out).mono ?_; rintro e w4 ⟨b4, rfl, n4, i4⟩; have HI4 := Lib.hid i4; have HN4 := Lib.hid n4; have HB5 := Lib.hid ((HB1.out.mono hlo).trans b4); clear i4 b4 n4))
      go_ret
      exact .same HB5.out HN4.out HI4.out
  · have hrl : 0 < rest.length := List.length_pos_iff.2 hr
    rw [if_pos (by simp; omega)]
    have hd : ¬ d = 1 := by omega
    have hd2 : 1 < d := by omega
    have g7 : decide ((0 : Int) < (rest.length : Int)) = true := decide_eq_true (by omega)
    clear h hf hl hz hcut hk hTl hR hr
    go_enter Tryz.func28, Tryz.ntmps28
    go_wp2_with (go_at_call 54; refine nm.mono ?_; rintro e w1 ⟨rfl, b1⟩; have HB1 := Lib.hid b1; clear b1 nm)
    go_ret
    exact .err (HB1.out.mono hlo) (by decide)
set_option maxRecDepth 100000 in
set_option maxHeartbeats 8000000 in
theorem Ml.act_Cont {base g : Nat} {w : World} {s : Mz.St} {x : Wo} {rest : List Wo} {b o d : Nat} {R : Nat → Prop} (h : Ml.Is base w g s) (hlo : base ≤ w.heap.size) (hf : s.Few 1048576) (hl : Wo.Lies w R (x :: rest) (.slice (some ⟨b, o, none⟩) (rest.length + 1) d)) (hz : Wi.Fits ((x :: rest).map Wo.wi)) (h1 : rest.length + 1 ≤ d) (h2 : d ≤ 9223372036854775807) (hk : Mz.name x = Tm.sCont) :
    Calls Tryz.prog 28 #[.pointer (some ⟨g, 0, none⟩), .slice (some ⟨b, o, none⟩) (rest.length + 1) d] w (Ml.Out base w g (s.action (x :: rest))) := by
  obtain ⟨pa, pd, c0, c1, c2, c3⟩ := Ml.at hl (i := 0) (x := x) rfl
  rw [show o + 0 * 4 = o by omega] at c0 c1 c2 c3
  have g3 : (0 : Int) < (rest.length : Int) + 1 := by omega
  have g5 : (1 : Int) ≤ (rest.length : Int) + 1 := by omega
  have nm := Ml.nameOf x pa x.path.length pd w
  have hcut := Ml.drop hl 1 (by simp)
  rw [hk] at nm
  have hTl : (⟨#[99, 111, 110, 116, 105, 110, 117, 101]⟩ : ByteArray).data.toList = Tm.sCont := rfl
  have nm : Calls Tryz.prog 54 #[.agg #[.int .i64 (x.kind : Int), .string ⟨x.text.toArray⟩, .slice pa x.path.length pd, .int .i64 x.num]] w fun e w' => e = .returned (.string ⟨#[99, 111, 110, 116, 105, 110, 117, 101]⟩) ∧ Below w.heap.size w w' := nm
  have hR : s.action (x :: rest) = if 1 < (x :: rest).length then .error 1604 else s.mark Tm.sCont := by
    rw [Mz.act_eq s x rest hk]
    rw [if_neg (by decide), if_neg (by decide), if_neg (by decide), if_pos (by decide)]
  rw [hR]
  by_cases hr : rest = []
  · subst hr
    rw [if_neg (by simp)]
    have HC : Hid (∀ u : World, Below w.heap.size w u → Calls Tryz.prog 56 #[.pointer (some ⟨g, 0, none⟩), .string ⟨#[99, 111, 110, 116, 105, 110, 117, 101]⟩] u (Ml.Out base u g (s.mark Tm.sCont))) := fun u hb => Ml.mark ⟨#[99, 111, 110, 116, 105, 110, 117, 101]⟩ (h.on hb) (Nat.le_trans hlo hb.size) hf
    generalize s.mark Tm.sCont = Z at *
    clear h hf hl hz hcut hk hTl hR
    by_cases hd : d = 1
    · subst hd
      go_enter Tryz.func28, Tryz.ntmps28
      go_wp2_with (first | (go_at_call 54; refine nm.mono ?_; rintro e w1 ⟨rfl, b1⟩; have HB1 := Lib.hid b1; clear b1 nm) | (go_at_call 56; refine (HC.out _ HB1.out).mono ?_; rintro e w4 ⟨b4, rfl, n4, i4⟩; have HI4 := Lib.hid i4; have HN4 := Lib.hid n4; have HB5 := Lib.hid ((HB1.out.mono hlo).trans b4); clear i4 b4 n4))
      go_ret
      exact .same HB5.out HN4.out HI4.out
    · have hd2 : 1 < d := by have : 1 ≤ d := h1; omega
      go_enter Tryz.func28, Tryz.ntmps28
      go_wp2_with (first | (go_at_call 54; refine nm.mono ?_; rintro e w1 ⟨rfl, b1⟩; have HB1 := Lib.hid b1; clear b1 nm) | (go_at_call 56; refine (HC.out _ HB1.out).mono ?_; rintro e w4 ⟨b4, rfl, n4, i4⟩; have HI4 := Lib.hid i4; have HN4 := Lib.hid n4; have HB5 := Lib.hid ((HB1.out.mono hlo).trans b4); clear i4 b4 n4))
      go_ret
      exact .same HB5.out HN4.out HI4.out
  · have hrl : 0 < rest.length := List.length_pos_iff.2 hr
    rw [if_pos (by simp; omega)]
    have hd : ¬ d = 1 := by omega
    have hd2 : 1 < d := by omega
    have g7 : decide ((0 : Int) < (rest.length : Int)) = true := decide_eq_true (by omega)
    clear h hf hl hz hcut hk hTl hR hr
    go_enter Tryz.func28, Tryz.ntmps28
    go_wp2_with (go_at_call 54; refine nm.mono ?_; rintro e w1 ⟨rfl, b1⟩; have HB1 := Lib.hid b1; clear b1 nm)
    go_ret
    exact .err (HB1.out.mono hlo) (by decide)
set_option maxRecDepth 100000 in
set_option maxHeartbeats 8000000 in
theorem Ml.act_Tmpl {base g : Nat} {w : World} {s : Mz.St} {x : Wo} {rest : List Wo} {b o d : Nat} {R : Nat → Prop} (h : Ml.Is base w g s) (hlo : base ≤ w.heap.size) (hf : s.Few 1048576) (hl : Wo.Lies w R (x :: rest) (.slice (some ⟨b, o, none⟩) (rest.length + 1) d)) (hz : Wi.Fits ((x :: rest).map Wo.wi)) (h1 : rest.length + 1 ≤ d) (h2 : d ≤ 9223372036854775807) (hk : Mz.name x = Tm.sTmpl) :
    Calls Tryz.prog 28 #[.pointer (some ⟨g, 0, none⟩), .slice (some ⟨b, o, none⟩) (rest.length + 1) d] w (Ml.Out base w g (s.action (x :: rest))) := by
  obtain ⟨pa, pd, c0, c1, c2, c3⟩ := Ml.at hl (i := 0) (x := x) rfl
  rw [show o + 0 * 4 = o by omega] at c0 c1 c2 c3
  have g3 : (0 : Int) < (rest.length : Int) + 1 := by omega
  have g5 : (1 : Int) ≤ (rest.length : Int) + 1 := by omega
  have nm := Ml.nameOf x pa x.path.length pd w
  have hcut := Ml.drop hl 1 (by simp)
  rw [hk] at nm
  have hTl : (⟨#[116, 101, 109, 112, 108, 97, 116, 101]⟩ : ByteArray).data.toList = Tm.sTmpl := rfl
  have nm : Calls Tryz.prog 54 #[.agg #[.int .i64 (x.kind : Int), .string ⟨x.text.toArray⟩, .slice pa x.path.length pd, .int .i64 x.num]] w fun e w' => e = .returned (.string ⟨#[116, 101, 109, 112, 108, 97, 116, 101]⟩) ∧ Below w.heap.size w w' := nm
  have hR : s.action (x :: rest) = s.call rest := by
    rw [Mz.act_eq s x rest hk]
    rw [if_neg (by decide), if_neg (by decide), if_neg (by decide), if_neg (by decide), if_pos rfl]
  rw [hR]
  by_cases hd : d = 1
  · subst hd
    have hr0 : rest = [] := List.eq_nil_of_length_eq_zero (by omega)
    subst hr0
    rw [show Ml.cut b o ([x] : List Wo).length 1 1 = .slice (some ⟨b, o, none⟩) 0 0 from rfl] at hcut
    have HC : Hid (∀ u : World, Below w.heap.size w u → Calls Tryz.prog 57 #[.pointer (some ⟨g, 0, none⟩), .slice (some ⟨b, o, none⟩) 0 0] u (Ml.Out base u g (s.call []))) := fun u hb => Ml.call (R := fun _ => True) (h.on hb) (Nat.le_trans hlo hb.size) hf (hcut.later hb) (hz.drop 1)
    generalize s.call [] = Z at *
    clear h hf hl hz hcut hk hTl hR
    go_enter Tryz.func28, Tryz.ntmps28
    go_wp2_with (first | (go_at_call 54; refine nm.mono ?_; rintro e w1 ⟨rfl, b1⟩; have HB1 := Lib.hid b1; clear b1 nm) | (go_at_call 57; refine (HC.out _ HB1.out).mono ?_; rintro e w4 ⟨b4, rfl, n4, i4⟩; have HI4 := Lib.hid i4; have HN4 := Lib.hid n4; have HB5 := Lib.hid ((HB1.out.mono hlo).trans b4); clear i4 b4 n4))
    go_ret
    exact .same HB5.out HN4.out HI4.out
  · have hd2 : 1 < d := by omega
    rw [show Ml.cut b o (x :: rest).length d 1 = .slice (some ⟨b, o + 4, none⟩) rest.length (d - 1) from if_neg hd] at hcut
    have HC : Hid (∀ u : World, Below w.heap.size w u → Calls Tryz.prog 57 #[.pointer (some ⟨g, 0, none⟩), .slice (some ⟨b, o + 4, none⟩) rest.length (d - 1)] u (Ml.Out base u g (s.call rest))) := fun u hb => Ml.call (R := fun _ => True) (h.on hb) (Nat.le_trans hlo hb.size) hf (hcut.later hb) (hz.drop 1)
    generalize s.call rest = Z at *
    clear h hf hl hz hcut hk hTl hR
    go_enter Tryz.func28, Tryz.ntmps28
    go_wp2_with (first | (go_at_call 54; refine nm.mono ?_; rintro e w1 ⟨rfl, b1⟩; have HB1 := Lib.hid b1; clear b1 nm) | (go_at_call 57; refine (HC.out _ HB1.out).mono ?_; rintro e w4 ⟨b4, rfl, n4, i4⟩; have HI4 := Lib.hid i4; have HN4 := Lib.hid n4; have HB5 := Lib.hid ((HB1.out.mono hlo).trans b4); clear i4 b4 n4))
    go_ret
    exact .same HB5.out HN4.out HI4.out
set_option maxRecDepth 100000 in
set_option maxHeartbeats 8000000 in
theorem Ml.act_rest {base g : Nat} {w : World} {s : Mz.St} {x : Wo} {rest : List Wo} {b o d : Nat} {R : Nat → Prop} (h : Ml.Is base w g s) (hlo : base ≤ w.heap.size) (hf : s.Few 1048576) (hl : Wo.Lies w R (x :: rest) (.slice (some ⟨b, o, none⟩) (rest.length + 1) d)) (hz : Wi.Fits ((x :: rest).map Wo.wi)) (h1 : rest.length + 1 ≤ d) (h2 : d ≤ 9223372036854775807) (nIf : ¬ Mz.name x = Tm.sIf) (nWith : ¬ Mz.name x = Tm.sWith) (nRange : ¬ Mz.name x = Tm.sRange) (nElse : ¬ Mz.name x = Tm.sElse) (nEnd : ¬ Mz.name x = Tm.sEnd) (nBreak : ¬ Mz.name x = Tm.sBreak) (nCont : ¬ Mz.name x = Tm.sCont) (nTmpl : ¬ Mz.name x = Tm.sTmpl) :
    Calls Tryz.prog 28 #[.pointer (some ⟨g, 0, none⟩), .slice (some ⟨b, o, none⟩) (rest.length + 1) d] w (Ml.Out base w g (s.action (x :: rest))) := by
  obtain ⟨pa, pd, c0, c1, c2, c3⟩ := Ml.at hl (i := 0) (x := x) rfl
  rw [show o + 0 * 4 = o by omega] at c0 c1 c2 c3
  have g3 : (0 : Int) < (rest.length : Int) + 1 := by omega
  have g5 : (1 : Int) ≤ (rest.length : Int) + 1 := by omega
  have nm := Ml.nameOf x pa x.path.length pd w
  have hcut := Ml.drop hl 1 (by simp)
  obtain ⟨T, hT⟩ : ∃ T : ByteArray, (⟨(Mz.name x).toArray⟩ : ByteArray) = T := ⟨_, rfl⟩
  have hTl : T.data.toList = Mz.name x := by rw [← hT]
  rw [hT] at nm
  have eIf : (T.toList == [105, 102]) = false := Mz.no (by rw [hTl]; exact nIf)
  have eWith : (T.toList == [119, 105, 116, 104]) = false := Mz.no (by rw [hTl]; exact nWith)
  have eRange : (T.toList == [114, 97, 110, 103, 101]) = false := Mz.no (by rw [hTl]; exact nRange)
  have eElse : (T.toList == [101, 108, 115, 101]) = false := Mz.no (by rw [hTl]; exact nElse)
  have eEnd : (T.toList == [101, 110, 100]) = false := Mz.no (by rw [hTl]; exact nEnd)
  have eBreak : (T.toList == [98, 114, 101, 97, 107]) = false := Mz.no (by rw [hTl]; exact nBreak)
  have eCont : (T.toList == [99, 111, 110, 116, 105, 110, 117, 101]) = false := Mz.no (by rw [hTl]; exact nCont)
  have eTmpl : (T.toList == [116, 101, 109, 112, 108, 97, 116, 101]) = false := Mz.no (by rw [hTl]; exact nTmpl)
  have hR : s.action (x :: rest) = match (x :: rest) with
    | x :: y :: rest => if x.kind = 2 ∧ x.path = [] ∧ y.kind = 6 then s.asked 2 x.text rest else s.asked 1 [] (x :: y :: rest)
    | ws => s.asked 1 [] ws := by
    rw [Mz.act_eq s x rest rfl, if_neg nIf, if_neg nWith, if_neg nRange, if_neg (fun q => by
      rcases q with q | q | q | q
      · exact nElse q
      · exact nEnd q
      · exact nBreak q
      · exact nCont q), if_neg nTmpl]
  rw [hR]
  have si := fun u (hb : Below w.heap.size w u) => Ml.isSet (hl.later hb) (by simp)
  clear nIf nWith nRange nElse nEnd nBreak nCont nTmpl hT hTl hR
  by_cases hs : Mz.isSet (x :: rest) = true
  · rw [hs] at si
    have hrest : ∃ y l, rest = y :: l := by
      cases rest with
      | nil => exact absurd hs (by simp [Mz.isSet])
      | cons y l => exact ⟨y, l, rfl⟩
    obtain ⟨y, l, rfl⟩ := hrest
    · have hss : x.kind = 2 ∧ x.path = [] ∧ y.kind = 6 := by
        unfold Mz.isSet at hs
        simp only [Bool.and_eq_true, decide_eq_true_eq] at hs
        exact ⟨hs.1, List.eq_nil_of_length_eq_zero hs.2.1, hs.2.2⟩
      dsimp only
      rw [if_pos hss]
      have hln : (y :: l).length = l.length + 1 := rfl
      rw [hln] at h1 g3 g5 ⊢
      have hd : ¬ d = 1 := by omega
      have hd2 : 1 < d := by omega
      have g8 : (2 : Int) ≤ (l.length : Int) + 1 + 1 := by omega
      have hcut2 := Ml.drop hl 2 (by simp)
      obtain ⟨TT, hTT⟩ : ∃ TT : ByteArray, (⟨x.text.toArray⟩ : ByteArray) = TT := ⟨_, rfl⟩
      have hTTl : TT.data.toList = x.text := by rw [← hTT]
      rw [hTT] at c1 nm
      have HK : Hid (∀ u : World, Below w.heap.size w u → u.cell? ⟨b, o + 1, none⟩ = some (.string TT)) := fun u hb => Tp.keep hb c1
      by_cases h22 : d = 2
      · subst h22
        have hl0 : l = [] := List.eq_nil_of_length_eq_zero (by omega)
        subst hl0
        rw [show Ml.cut b o ([x, y] : List Wo).length 2 2 = .slice (some ⟨b, o, none⟩) 0 0 from rfl] at hcut2
        have HC : Hid (∀ u : World, Below w.heap.size w u → Calls Tryz.prog 59 #[.pointer (some ⟨g, 0, none⟩), .agg #[.int .i64 2, .string TT, .slice none 0 0, .slice none 0 0, .slice none 0 0], .slice (some ⟨b, o, none⟩) 0 0] u (Ml.Out base u g (s.asked 2 x.text []))) := fun u hb => by
          rw [← hTTl]
          exact Ml.asked (R := fun _ => True) (h.on hb) (Nat.le_trans hlo hb.size) hf (hcut2.later hb) (hz.drop 2)
        generalize s.asked 2 x.text [] = Z at *
        clear h hf hl hz hcut hcut2 hs hss
        go_enter Tryz.func28, Tryz.ntmps28
        go_upto_region 20 with (first | (go_at_call 54; refine nm.mono ?_; rintro e w1 ⟨rfl, b1⟩; have HB1 := Lib.hid b1; clear b1 nm) | (go_at_call 58; refine (si _ HB1.out).mono ?_; rintro e w2 ⟨rfl, n2, rfl⟩; have HB2 := Lib.hid (HB1.out.trans (Ml.drewN_below w1 n2 w.heap.size)); clear si))
        have HB3 : Hid (Below w.heap.size w (w1.drewN n2).drew) := HB2.out.drew
        have ck := HK.out _ HB1.out
        have hc := HC.out _ HB3.out
        go_region_with (go_at_call 59; refine (hc).mono ?_; rintro e w4 ⟨b4, rfl, n4, i4⟩; have HI4 := Lib.hid i4; have HN4 := Lib.hid n4; have HB5 := Lib.hid ((HB3.out.mono hlo).trans b4); clear i4 b4 n4)
        all_goals go_wp2
        all_goals go_ret
        all_goals exact .same HB5.out HN4.out HI4.out
      · have h23 : 2 < d := by omega
        rw [show Ml.cut b o (x :: y :: l).length d 2 = .slice (some ⟨b, o + 8, none⟩) l.length (d - 2) from if_neg h22] at hcut2
        have HC : Hid (∀ u : World, Below w.heap.size w u → Calls Tryz.prog 59 #[.pointer (some ⟨g, 0, none⟩), .agg #[.int .i64 2, .string TT, .slice none 0 0, .slice none 0 0, .slice none 0 0], .slice (some ⟨b, o + 8, none⟩) l.length (d - 2)] u (Ml.Out base u g (s.asked 2 x.text l))) := fun u hb => by
          rw [← hTTl]
          exact Ml.asked (R := fun _ => True) (h.on hb) (Nat.le_trans hlo hb.size) hf (hcut2.later hb) (hz.drop 2)
        generalize s.asked 2 x.text l = Z at *
        clear h hf hl hz hcut hcut2 hs hss
        go_enter Tryz.func28, Tryz.ntmps28
        go_upto_region 20 with (first | (go_at_call 54; refine nm.mono ?_; rintro e w1 ⟨rfl, b1⟩; have HB1 := Lib.hid b1; clear b1 nm) | (go_at_call 58; refine (si _ HB1.out).mono ?_; rintro e w2 ⟨rfl, n2, rfl⟩; have HB2 := Lib.hid (HB1.out.trans (Ml.drewN_below w1 n2 w.heap.size)); clear si))
        have HB3 : Hid (Below w.heap.size w (w1.drewN n2).drew) := HB2.out.drew
        have ck := HK.out _ HB1.out
        have hc := HC.out _ HB3.out
        go_region_with (go_at_call 59; refine (hc).mono ?_; rintro e w4 ⟨b4, rfl, n4, i4⟩; have HI4 := Lib.hid i4; have HN4 := Lib.hid n4; have HB5 := Lib.hid ((HB3.out.mono hlo).trans b4); clear i4 b4 n4)
        all_goals go_wp2
        all_goals go_ret
        all_goals exact .same HB5.out HN4.out HI4.out
  · have hs2 : Mz.isSet (x :: rest) = false := by simpa using hs
    rw [hs2] at si
    have hR2 : (match (x :: rest) with
    | x :: y :: rest => if x.kind = 2 ∧ x.path = [] ∧ y.kind = 6 then s.asked 2 x.text rest else s.asked 1 [] (x :: y :: rest)
    | ws => s.asked 1 [] ws) = s.asked 1 (⟨#[]⟩ : ByteArray).data.toList (x :: rest) := by
      cases rest with
      | nil => rfl
      | cons y l =>
        dsimp only
        rw [if_neg (fun q => hs (by
          unfold Mz.isSet
          simp only [Bool.and_eq_true, decide_eq_true_eq]
          exact ⟨q.1, by rw [q.2.1]; rfl, q.2.2⟩))]
    rw [hR2]
    have HC : Hid (∀ u : World, Below w.heap.size w u → Calls Tryz.prog 59 #[.pointer (some ⟨g, 0, none⟩), .agg #[.int .i64 1, .string ⟨#[]⟩, .slice none 0 0, .slice none 0 0, .slice none 0 0], .slice (some ⟨b, o, none⟩) (rest.length + 1) d] u (Ml.Out base u g (s.asked 1 (⟨#[]⟩ : ByteArray).data.toList (x :: rest)))) := fun u hb => Ml.asked (R := fun _ => True) (h.on hb) (Nat.le_trans hlo hb.size) hf (hl.later hb) hz
    generalize s.asked 1 (⟨#[]⟩ : ByteArray).data.toList (x :: rest) = Z at *
    clear h hf hl hz hcut hR2 hs hs2
    by_cases hd : d = 1
    · subst hd
      go_enter Tryz.func28, Tryz.ntmps28
      go_wp2_with (first | (go_at_call 54; refine nm.mono ?_; rintro e w1 ⟨rfl, b1⟩; have HB1 := Lib.hid b1; clear b1 nm) | (go_at_call 58; refine (si _ HB1.out).mono ?_; rintro e w2 ⟨rfl, n2, rfl⟩; have HB2 := Lib.hid (HB1.out.trans (Ml.drewN_below w1 n2 w.heap.size)); clear si) | (go_at_call 59; refine (HC.out _ HB2.out).mono ?_; rintro e w4 ⟨b4, rfl, n4, i4⟩; have HI4 := Lib.hid i4; have HN4 := Lib.hid n4; have HB5 := Lib.hid ((HB2.out.mono hlo).trans b4); clear i4 b4 n4))
      go_ret
      exact .same HB5.out HN4.out HI4.out
    · have hd2 : 1 < d := by omega
      go_enter Tryz.func28, Tryz.ntmps28
      go_wp2_with (first | (go_at_call 54; refine nm.mono ?_; rintro e w1 ⟨rfl, b1⟩; have HB1 := Lib.hid b1; clear b1 nm) | (go_at_call 58; refine (si _ HB1.out).mono ?_; rintro e w2 ⟨rfl, n2, rfl⟩; have HB2 := Lib.hid (HB1.out.trans (Ml.drewN_below w1 n2 w.heap.size)); clear si) | (go_at_call 59; refine (HC.out _ HB2.out).mono ?_; rintro e w4 ⟨b4, rfl, n4, i4⟩; have HI4 := Lib.hid i4; have HN4 := Lib.hid n4; have HB5 := Lib.hid ((HB2.out.mono hlo).trans b4); clear i4 b4 n4))
      go_ret
      exact .same HB5.out HN4.out HI4.out
theorem Ml.action {base g : Nat} {w : World} {s : Mz.St} {ws : List Wo} {v : Value} {R : Nat → Prop} (h : Ml.Is base w g s) (hlo : base ≤ w.heap.size) (hf : s.Few 1048576) (hl : Wo.Lies w R ws v) (hz : Wi.Fits (ws.map Wo.wi)) (hne : ws ≠ []) :
    Calls Tryz.prog 28 #[.pointer (some ⟨g, 0, none⟩), v] w (Ml.Out base w g (s.action ws)) := by
  obtain ⟨b, o, d, rfl, h1, h2⟩ := Ml.ws_form hl hne
  match ws, hne, hl, hz, h1 with
  | x :: rest, _, hl, hz, h1 =>
    by_cases nIf : Mz.name x = Tm.sIf
    · exact Ml.act_If h hlo hf hl hz h1 h2 nIf
    by_cases nWith : Mz.name x = Tm.sWith
    · exact Ml.act_With h hlo hf hl hz h1 h2 nWith
    by_cases nRange : Mz.name x = Tm.sRange
    · exact Ml.act_Range h hlo hf hl hz h1 h2 nRange
    by_cases nElse : Mz.name x = Tm.sElse
    · exact Ml.act_Else h hlo hf hl hz h1 h2 nElse
    by_cases nEnd : Mz.name x = Tm.sEnd
    · exact Ml.act_End h hlo hf hl hz h1 h2 nEnd
    by_cases nBreak : Mz.name x = Tm.sBreak
    · exact Ml.act_Break h hlo hf hl hz h1 h2 nBreak
    by_cases nCont : Mz.name x = Tm.sCont
    · exact Ml.act_Cont h hlo hf hl hz h1 h2 nCont
    by_cases nTmpl : Mz.name x = Tm.sTmpl
    · exact Ml.act_Tmpl h hlo hf hl hz h1 h2 nTmpl
    exact Ml.act_rest h hlo hf hl hz h1 h2 nIf nWith nRange nElse nEnd nBreak nCont nTmpl
end Go.Proofs.YtjppobeomocgbaaGreatDoor

/-
  THE WALK of the landed reader: value.
-/
import Derived.Test.YtiajclmhimkpnaaDoorBJRn
namespace Go.Proofs.YtiajclmhimkpnaaDoor
open Go.RowKit
theorem Jr.leaf_lies (W : World) (R : Nat → Prop) (k x : Int) (b : Nat) (s : ByteArray) (hb : b < 18446744073709551616) : (Js.leaf k x b s).Lies W R (.agg #[.int .i64 k, .int .i64 x, .int .u64 (b : Int), .string s, .slice none 0 0, .slice none 0 0]) :=
  ⟨none, 0, none, 0, rfl, hb, Nat.le_refl _, Nat.zero_le _, ⟨Nat.le_refl _, Nat.zero_le _, fun j hj => absurd hj (by omega)⟩, fun i hi => absurd hi (by omega)⟩
theorem Jr.num_lies (W : World) (R : Nat → Prop) (neg : Bool) (n : Nat) : (Jr.num neg n).Lies W R (Jr.numVal neg n) := by
  unfold Jr.num Jr.numVal
  split
  · exact Jr.leaf_lies W R 3 0 9223372036854775808 ⟨#[]⟩ (by decide)
  · exact Jr.leaf_lies W R 2 _ 0 ⟨#[]⟩ (by decide)
theorem Jr.num_form (neg : Bool) (n : Nat) : ∃ (k x : Int) (b : Nat), Jr.numVal neg n = .agg #[.int .i64 k, .int .i64 x, .int .u64 (b : Int), .string ⟨#[]⟩, .slice none 0 0, .slice none 0 0] := by
  unfold Jr.numVal Jr.cells
  split
  · exact ⟨_, _, _, rfl⟩
  · exact ⟨_, _, _, rfl⟩
theorem Jr.head_iff {c : UInt8} (hc : c ≠ 0) (l : List UInt8) : l.head? = some c ↔ l.headD 0 = c := by
  cases l with
  | nil => simp; exact fun q => hc q.symm
  | cons d r => simp
theorem Jr.head_cons {c : UInt8} (hc : c ≠ 0) {l : List UInt8} (h : l.headD 0 = c) : l = c :: l.drop 1 := by
  cases l with
  | nil => exact absurd h.symm hc
  | cons d r =>
    have h : d = c := h
    subst h
    rfl
/-- the end: the answer is laid in its variable -/
theorem Jr.val_end {w w3 W : World} {g : Nat} {T : ByteArray} {t : Vt} {r : List UInt8} {v : Value} (hg : g < w.heap.size) (hb3 : w.grownBy w3 (some g)) (hR : Jr.Rd w3 g T r) (hl : t.Lies w3 (fun k => w.heap.size + 1 ≤ k ∧ k < w3.heap.size) v) (hb : Below w.heap.size w3 W) (hq : ∀ k, k ≠ w.heap.size → W.heap[k]? = w3.heap[k]?) : Jr.VOut (some (t, r)) w g T (.returned v) W :=
  ⟨v, rfl, hl.on fun k hk => ⟨⟨by have := hk.1; omega, Nat.lt_of_lt_of_le hk.2 hb.size⟩, hq k (by have := hk.1; omega)⟩, Jr.grown_more hb3 hb (Nat.le_refl _), hR.below hb hg⟩
set_option maxRecDepth 100000 in
set_option maxHeartbeats 8000000 in
theorem Jr.valueStep (d E : Nat) (hE : E ≤ 8) (g : Nat) (T : ByteArray) (hV : Jr.Val d E g T) (l : List UInt8) (w : World) (h : Jr.Rd w g T l) :
    Calls Tryd.prog 31 #[.pointer (some ⟨g, 0, none⟩), .int .i64 (E : Int)] w (Jr.VOut (Jr.value (d + 1) l) w g T) := by
  have hgw := h.lt
  have HG : Hid (w.heap.size ≠ g) := by unfold Hid; omega
  have HX : Hid (w.grownBy (w.alloc (.cells #[.int .i64 0, .int .i64 0, .int .u64 0, .string ⟨#[]⟩, .slice none 0 0, .slice none 0 0] 29)) none) := World.grownBy_alloc _ _ _
  have HBX : Hid (Vm.Box (w.alloc (.cells #[.int .i64 0, .int .i64 0, .int .u64 0, .string ⟨#[]⟩, .slice none 0 0, .slice none 0 0] 29)) w.heap.size (.int .i64 0) (.int .i64 0) (.int .u64 0) (.string ⟨#[]⟩) (.slice none 0 0) (.slice none 0 0)) := ⟨Vm.Has.new w _ _ rfl⟩
  have HSZ : Hid (w.heap.size + 1 ≤ (w.alloc (.cells #[.int .i64 0, .int .i64 0, .int .u64 0, .string ⟨#[]⟩, .slice none 0 0, .slice none 0 0] 29)).heap.size) := by unfold Hid; simp
  have bl := Jr.blanks l g T _ (h.on HX.out)
  have pk := fun u q => Jr.peek (Js.ws l) g T u q
  have dE : decide ((8 : Int) < (E : Int)) = false := decide_eq_false (by omega)
  have dEn : decide (8 < E) = false := decide_eq_false (by omega)
  have HVV := Lib.hid hV
  obtain ⟨O, hO⟩ : ∃ O, Jr.value (d + 1) l = O := ⟨_, rfl⟩
  rw [hO]
  rw [Jr.value] at hO
  generalize Js.ws l = L at *
  clear h hV
  unfold Jr.at at hO
  have e110 : (((L.headD 0).toNat : Int) == 110) = decide (L.headD 0 = 110) := Jr.eq_dec _ 110
  have e116 : (((L.headD 0).toNat : Int) == 116) = decide (L.headD 0 = 116) := Jr.eq_dec _ 116
  have e102 : (((L.headD 0).toNat : Int) == 102) = decide (L.headD 0 = 102) := Jr.eq_dec _ 102
  have e34 : (((L.headD 0).toNat : Int) == 34) = decide (L.headD 0 = 34) := Jr.eq_dec _ 34
  have e91 : (((L.headD 0).toNat : Int) == 91) = decide (L.headD 0 = 91) := Jr.eq_dec _ 91
  have e123 : (((L.headD 0).toNat : Int) == 123) = decide (L.headD 0 = 123) := Jr.eq_dec _ 123
  by_cases h110 : L.headD 0 = 110
  · rw [if_pos ((Jr.head_iff (by decide) L).2 h110)] at hO
    rw [decide_eq_true h110] at e110
    by_cases hp : Pl.pre [110, 117, 108, 108] L = true
    · rw [if_pos hp] at hO
      subst hO
      have cl := fun u q => Jr.word ⟨#[110, 117, 108, 108]⟩ L hp g T u q
      rw [show (⟨#[110, 117, 108, 108]⟩ : ByteArray).size = 4 from rfl] at cl
      clear hp HVV h110 e116 e102 e34 e91 e123
      generalize (L.headD 0).toNat = C at *
      go_enter Tryd.func31, Tryd.ntmps31
      go_wp2_with (first | (go_at_call 32; refine bl.mono ?_; rintro e1 w1 ⟨rfl, b1, q1⟩; have HB1 := Lib.hid (Jr.grown_trans (Jr.grown_some HX.out (some g)) b1); have HX1 := Lib.hid (Jr.box_grown HBX.out b1 HG.out); have HZ1 := Lib.hid (Nat.le_trans HSZ.out b1.size); have HR1 := Lib.hid q1; replace pk := pk _ q1; clear b1 q1 bl) | (go_at_call 39; refine pk.mono ?_; rintro e2 w2 ⟨rfl, b2⟩; have HB2 := Lib.hid (Jr.grown_trans HB1.out (Jr.grown_some b2 _)); have HX2 := Lib.hid (Jr.box_grown HX1.out (Jr.grown_some b2 (some g)) HG.out); have HZ2 := Lib.hid (Nat.le_trans HZ1.out b2.size); replace cl := cl _ (HR1.out.on b2); clear b2 pk) | (go_at_call 40; refine cl.mono ?_; rintro e3 w3 ⟨rfl, b3, q3⟩; have HB3 := Lib.hid (Jr.grown_trans HB2.out b3); have HX3 := Lib.hid (Jr.box_grown HX2.out b3 HG.out); have HR3 := Lib.hid q3; obtain ⟨c0, c1, c2, c3, c4, c5⟩ := HX3.out.cells; have f0 := HX3.out.has.frozen 0; have f1 := HX3.out.has.frozen 1; have f2 := HX3.out.has.frozen 2; have f3 := HX3.out.has.frozen 3; have f4 := HX3.out.has.frozen 4; have f5 := HX3.out.has.frozen 5; clear b3 q3 cl))
      obtain ⟨W, hW, hX, hb⟩ := Jr.six HX3.out (.int .i64 0) (.int .i64 0) (.int .u64 0) (.string ⟨#[]⟩) (.slice none 0 0) (.slice none 0 0)
      have hq : ∀ k, k ≠ w.heap.size → W.heap[k]? = w3.heap[k]? := fun k hk => by rw [← hW]; exact Jr.six_other w3 w.heap.size 0 _ _ _ _ _ _ k hk
      rw [hW]
      obtain ⟨x0, x1, x2, x3, x4, x5⟩ := hX.cells
      refine bodyPost_ret (v := .agg #[.int .i64 0, .int .i64 0, .int .u64 0, .string ⟨#[]⟩, .slice none 0 0, .slice none 0 0]) (by simp [results, Tryd.results31, go_sem, x0, x1, x2, x3, x4, x5]) rfl ?_
      exact Jr.val_end hgw HB3.out HR3.out (Jr.leaf_lies _ _ 0 0 0 ⟨#[]⟩ (by decide)) hb hq
    · rw [if_neg hp] at hO
      subst hO
      have cl := fun u q => Jr.word_no ⟨#[110, 117, 108, 108]⟩ L (Bool.eq_false_iff.2 hp) g T u q
      clear hp HVV h110 e116 e102 e34 e91 e123
      generalize (L.headD 0).toNat = C at *
      go_enter Tryd.func31, Tryd.ntmps31
      go_wp2_with (first | (go_at_call 32; refine bl.mono ?_; rintro e1 w1 ⟨rfl, b1, q1⟩; have HB1 := Lib.hid (Jr.grown_trans (Jr.grown_some HX.out (some g)) b1); have HX1 := Lib.hid (Jr.box_grown HBX.out b1 HG.out); have HZ1 := Lib.hid (Nat.le_trans HSZ.out b1.size); have HR1 := Lib.hid q1; replace pk := pk _ q1; clear b1 q1 bl) | (go_at_call 39; refine pk.mono ?_; rintro e2 w2 ⟨rfl, b2⟩; have HB2 := Lib.hid (Jr.grown_trans HB1.out (Jr.grown_some b2 _)); have HX2 := Lib.hid (Jr.box_grown HX1.out (Jr.grown_some b2 (some g)) HG.out); have HZ2 := Lib.hid (Nat.le_trans HZ1.out b2.size); replace cl := cl _ (HR1.out.on b2); clear b2 pk) | (go_at_call 40; refine cl.mono ?_; rintro e3 w3 ⟨rfl, b3⟩; have HB3 := Lib.hid (Jr.grown_trans HB2.out b3); clear b3 cl))
      exact ⟨rfl, rfl, HB3.out⟩
  · rw [if_neg (fun q => h110 ((Jr.head_iff (by decide) L).1 q))] at hO
    rw [decide_eq_false h110] at e110
    by_cases h116 : L.headD 0 = 116
    · rw [if_pos ((Jr.head_iff (by decide) L).2 h116)] at hO
      rw [decide_eq_true h116] at e116
      by_cases hp : Pl.pre [116, 114, 117, 101] L = true
      · rw [if_pos hp] at hO
        subst hO
        have cl := fun u q => Jr.word ⟨#[116, 114, 117, 101]⟩ L hp g T u q
        rw [show (⟨#[116, 114, 117, 101]⟩ : ByteArray).size = 4 from rfl] at cl
        clear hp HVV h116 e102 e34 e91 e123
        generalize (L.headD 0).toNat = C at *
        go_enter Tryd.func31, Tryd.ntmps31
        go_wp2_with (first | (go_at_call 32; refine bl.mono ?_; rintro e1 w1 ⟨rfl, b1, q1⟩; have HB1 := Lib.hid (Jr.grown_trans (Jr.grown_some HX.out (some g)) b1); have HX1 := Lib.hid (Jr.box_grown HBX.out b1 HG.out); have HZ1 := Lib.hid (Nat.le_trans HSZ.out b1.size); have HR1 := Lib.hid q1; replace pk := pk _ q1; clear b1 q1 bl) | (go_at_call 39; refine pk.mono ?_; rintro e2 w2 ⟨rfl, b2⟩; have HB2 := Lib.hid (Jr.grown_trans HB1.out (Jr.grown_some b2 _)); have HX2 := Lib.hid (Jr.box_grown HX1.out (Jr.grown_some b2 (some g)) HG.out); have HZ2 := Lib.hid (Nat.le_trans HZ1.out b2.size); replace cl := cl _ (HR1.out.on b2); clear b2 pk) | (go_at_call 40; refine cl.mono ?_; rintro e3 w3 ⟨rfl, b3, q3⟩; have HB3 := Lib.hid (Jr.grown_trans HB2.out b3); have HX3 := Lib.hid (Jr.box_grown HX2.out b3 HG.out); have HR3 := Lib.hid q3; obtain ⟨c0, c1, c2, c3, c4, c5⟩ := HX3.out.cells; have f0 := HX3.out.has.frozen 0; have f1 := HX3.out.has.frozen 1; have f2 := HX3.out.has.frozen 2; have f3 := HX3.out.has.frozen 3; have f4 := HX3.out.has.frozen 4; have f5 := HX3.out.has.frozen 5; clear b3 q3 cl))
        obtain ⟨W, hW, hX, hb⟩ := Jr.six HX3.out (.int .i64 1) (.int .i64 1) (.int .u64 0) (.string ⟨#[]⟩) (.slice none 0 0) (.slice none 0 0)
        have hq : ∀ k, k ≠ w.heap.size → W.heap[k]? = w3.heap[k]? := fun k hk => by rw [← hW]; exact Jr.six_other w3 w.heap.size 0 _ _ _ _ _ _ k hk
        rw [hW]
        obtain ⟨x0, x1, x2, x3, x4, x5⟩ := hX.cells
        refine bodyPost_ret (v := .agg #[.int .i64 1, .int .i64 1, .int .u64 0, .string ⟨#[]⟩, .slice none 0 0, .slice none 0 0]) (by simp [results, Tryd.results31, go_sem, x0, x1, x2, x3, x4, x5]) rfl ?_
        exact Jr.val_end hgw HB3.out HR3.out (Jr.leaf_lies _ _ 1 1 0 ⟨#[]⟩ (by decide)) hb hq
      · rw [if_neg hp] at hO
        subst hO
        have cl := fun u q => Jr.word_no ⟨#[116, 114, 117, 101]⟩ L (Bool.eq_false_iff.2 hp) g T u q
        clear hp HVV h116 e102 e34 e91 e123
        generalize (L.headD 0).toNat = C at *
        go_enter Tryd.func31, Tryd.ntmps31
        go_wp2_with (first | (go_at_call 32; refine bl.mono ?_; rintro e1 w1 ⟨rfl, b1, q1⟩; have HB1 := Lib.hid (Jr.grown_trans (Jr.grown_some HX.out (some g)) b1); have HX1 := Lib.hid (Jr.box_grown HBX.out b1 HG.out); have HZ1 := Lib.hid (Nat.le_trans HSZ.out b1.size); have HR1 := Lib.hid q1; replace pk := pk _ q1; clear b1 q1 bl) | (go_at_call 39; refine pk.mono ?_; rintro e2 w2 ⟨rfl, b2⟩; have HB2 := Lib.hid (Jr.grown_trans HB1.out (Jr.grown_some b2 _)); have HX2 := Lib.hid (Jr.box_grown HX1.out (Jr.grown_some b2 (some g)) HG.out); have HZ2 := Lib.hid (Nat.le_trans HZ1.out b2.size); replace cl := cl _ (HR1.out.on b2); clear b2 pk) | (go_at_call 40; refine cl.mono ?_; rintro e3 w3 ⟨rfl, b3⟩; have HB3 := Lib.hid (Jr.grown_trans HB2.out b3); clear b3 cl))
        exact ⟨rfl, rfl, HB3.out⟩
    · rw [if_neg (fun q => h116 ((Jr.head_iff (by decide) L).1 q))] at hO
      rw [decide_eq_false h116] at e116
      by_cases h102 : L.headD 0 = 102
      · rw [if_pos ((Jr.head_iff (by decide) L).2 h102)] at hO
        rw [decide_eq_true h102] at e102
        by_cases hp : Pl.pre [102, 97, 108, 115, 101] L = true
        · rw [if_pos hp] at hO
          subst hO
          have cl := fun u q => Jr.word ⟨#[102, 97, 108, 115, 101]⟩ L hp g T u q
          rw [show (⟨#[102, 97, 108, 115, 101]⟩ : ByteArray).size = 5 from rfl] at cl
          clear hp HVV h102 e34 e91 e123
          generalize (L.headD 0).toNat = C at *
          go_enter Tryd.func31, Tryd.ntmps31
          go_wp2_with (first | (go_at_call 32; refine bl.mono ?_; rintro e1 w1 ⟨rfl, b1, q1⟩; have HB1 := Lib.hid (Jr.grown_trans (Jr.grown_some HX.out (some g)) b1); have HX1 := Lib.hid (Jr.box_grown HBX.out b1 HG.out); have HZ1 := Lib.hid (Nat.le_trans HSZ.out b1.size); have HR1 := Lib.hid q1; replace pk := pk _ q1; clear b1 q1 bl) | (go_at_call 39; refine pk.mono ?_; rintro e2 w2 ⟨rfl, b2⟩; have HB2 := Lib.hid (Jr.grown_trans HB1.out (Jr.grown_some b2 _)); have HX2 := Lib.hid (Jr.box_grown HX1.out (Jr.grown_some b2 (some g)) HG.out); have HZ2 := Lib.hid (Nat.le_trans HZ1.out b2.size); replace cl := cl _ (HR1.out.on b2); clear b2 pk) | (go_at_call 40; refine cl.mono ?_; rintro e3 w3 ⟨rfl, b3, q3⟩; have HB3 := Lib.hid (Jr.grown_trans HB2.out b3); have HX3 := Lib.hid (Jr.box_grown HX2.out b3 HG.out); have HR3 := Lib.hid q3; obtain ⟨c0, c1, c2, c3, c4, c5⟩ := HX3.out.cells; have f0 := HX3.out.has.frozen 0; have f1 := HX3.out.has.frozen 1; have f2 := HX3.out.has.frozen 2; have f3 := HX3.out.has.frozen 3; have f4 := HX3.out.has.frozen 4; have f5 := HX3.out.has.frozen 5; clear b3 q3 cl))
          obtain ⟨W, hW, hX, hb⟩ := Jr.six HX3.out (.int .i64 1) (.int .i64 0) (.int .u64 0) (.string ⟨#[]⟩) (.slice none 0 0) (.slice none 0 0)
          have hq : ∀ k, k ≠ w.heap.size → W.heap[k]? = w3.heap[k]? := fun k hk => by rw [← hW]; exact Jr.six_other w3 w.heap.size 0 _ _ _ _ _ _ k hk
          rw [hW]
          obtain ⟨x0, x1, x2, x3, x4, x5⟩ := hX.cells
          refine bodyPost_ret (v := .agg #[.int .i64 1, .int .i64 0, .int .u64 0, .string ⟨#[]⟩, .slice none 0 0, .slice none 0 0]) (by simp [results, Tryd.results31, go_sem, x0, x1, x2, x3, x4, x5]) rfl ?_
          exact Jr.val_end hgw HB3.out HR3.out (Jr.leaf_lies _ _ 1 0 0 ⟨#[]⟩ (by decide)) hb hq
        · rw [if_neg hp] at hO
          subst hO
          have cl := fun u q => Jr.word_no ⟨#[102, 97, 108, 115, 101]⟩ L (Bool.eq_false_iff.2 hp) g T u q
          clear hp HVV h102 e34 e91 e123
          generalize (L.headD 0).toNat = C at *
          go_enter Tryd.func31, Tryd.ntmps31
          go_wp2_with (first | (go_at_call 32; refine bl.mono ?_; rintro e1 w1 ⟨rfl, b1, q1⟩; have HB1 := Lib.hid (Jr.grown_trans (Jr.grown_some HX.out (some g)) b1); have HX1 := Lib.hid (Jr.box_grown HBX.out b1 HG.out); have HZ1 := Lib.hid (Nat.le_trans HSZ.out b1.size); have HR1 := Lib.hid q1; replace pk := pk _ q1; clear b1 q1 bl) | (go_at_call 39; refine pk.mono ?_; rintro e2 w2 ⟨rfl, b2⟩; have HB2 := Lib.hid (Jr.grown_trans HB1.out (Jr.grown_some b2 _)); have HX2 := Lib.hid (Jr.box_grown HX1.out (Jr.grown_some b2 (some g)) HG.out); have HZ2 := Lib.hid (Nat.le_trans HZ1.out b2.size); replace cl := cl _ (HR1.out.on b2); clear b2 pk) | (go_at_call 40; refine cl.mono ?_; rintro e3 w3 ⟨rfl, b3⟩; have HB3 := Lib.hid (Jr.grown_trans HB2.out b3); clear b3 cl))
          exact ⟨rfl, rfl, HB3.out⟩
      · rw [if_neg (fun q => h102 ((Jr.head_iff (by decide) L).1 q))] at hO
        rw [decide_eq_false h102] at e102
        by_cases h34 : L.headD 0 = 34
        · rw [if_pos ((Jr.head_iff (by decide) L).2 h34)] at hO
          rw [decide_eq_true h34] at e34
          have cl := fun u q => Jr.quoted L g T u q
          have hcn := Jr.head_cons (by decide) h34
          have hqu : Jr.quo L = Jr.text (L.drop 1) := by unfold Jr.quo; rw [if_pos (by rw [hcn, Pl.pre_cons, Pl.pre_nil]; simp)]
          rw [hqu] at cl
          clear hqu hcn HVV h34 e91 e123
          generalize (L.headD 0).toNat = C at *
          cases hx : Jr.text (L.drop 1) with
          | none =>
            rw [hx] at hO cl
            have hO : none = O := hO
            subst hO
            clear hx
            go_enter Tryd.func31, Tryd.ntmps31
            go_wp2_with (first | (go_at_call 32; refine bl.mono ?_; rintro e1 w1 ⟨rfl, b1, q1⟩; have HB1 := Lib.hid (Jr.grown_trans (Jr.grown_some HX.out (some g)) b1); have HX1 := Lib.hid (Jr.box_grown HBX.out b1 HG.out); have HZ1 := Lib.hid (Nat.le_trans HSZ.out b1.size); have HR1 := Lib.hid q1; replace pk := pk _ q1; clear b1 q1 bl) | (go_at_call 39; refine pk.mono ?_; rintro e2 w2 ⟨rfl, b2⟩; have HB2 := Lib.hid (Jr.grown_trans HB1.out (Jr.grown_some b2 _)); have HX2 := Lib.hid (Jr.box_grown HX1.out (Jr.grown_some b2 (some g)) HG.out); have HZ2 := Lib.hid (Nat.le_trans HZ1.out b2.size); replace cl := cl _ (HR1.out.on b2); clear b2 pk) | (go_at_call 41; refine cl.mono ?_; rintro e3 w3 ⟨rfl, b3⟩; have HB3 := Lib.hid (Jr.grown_trans HB2.out b3); clear b3 cl))
            exact ⟨rfl, rfl, HB3.out⟩
          | some p =>
            obtain ⟨b, r⟩ := p
            rw [hx] at hO cl
            have hO : some (Js.leaf 4 0 0 ⟨b.toArray⟩, r) = O := hO
            subst hO
            clear hx
            go_enter Tryd.func31, Tryd.ntmps31
            go_wp2_with (first | (go_at_call 32; refine bl.mono ?_; rintro e1 w1 ⟨rfl, b1, q1⟩; have HB1 := Lib.hid (Jr.grown_trans (Jr.grown_some HX.out (some g)) b1); have HX1 := Lib.hid (Jr.box_grown HBX.out b1 HG.out); have HZ1 := Lib.hid (Nat.le_trans HSZ.out b1.size); have HR1 := Lib.hid q1; replace pk := pk _ q1; clear b1 q1 bl) | (go_at_call 39; refine pk.mono ?_; rintro e2 w2 ⟨rfl, b2⟩; have HB2 := Lib.hid (Jr.grown_trans HB1.out (Jr.grown_some b2 _)); have HX2 := Lib.hid (Jr.box_grown HX1.out (Jr.grown_some b2 (some g)) HG.out); have HZ2 := Lib.hid (Nat.le_trans HZ1.out b2.size); replace cl := cl _ (HR1.out.on b2); clear b2 pk) | (go_at_call 41; refine cl.mono ?_; rintro e3 w3 ⟨rfl, b3, q3⟩; have HB3 := Lib.hid (Jr.grown_trans HB2.out b3); have HX3 := Lib.hid (Jr.box_grown HX2.out b3 HG.out); have HR3 := Lib.hid q3; obtain ⟨c0, c1, c2, c3, c4, c5⟩ := HX3.out.cells; have f0 := HX3.out.has.frozen 0; have f1 := HX3.out.has.frozen 1; have f2 := HX3.out.has.frozen 2; have f3 := HX3.out.has.frozen 3; have f4 := HX3.out.has.frozen 4; have f5 := HX3.out.has.frozen 5; clear b3 q3 cl))
            obtain ⟨W, hW, hX, hb⟩ := Jr.six HX3.out (.int .i64 4) (.int .i64 0) (.int .u64 0) (.string ⟨b.toArray⟩) (.slice none 0 0) (.slice none 0 0)
            have hq : ∀ k, k ≠ w.heap.size → W.heap[k]? = w3.heap[k]? := fun k hk => by rw [← hW]; exact Jr.six_other w3 w.heap.size 0 _ _ _ _ _ _ k hk
            rw [hW]
            obtain ⟨x0, x1, x2, x3, x4, x5⟩ := hX.cells
            refine bodyPost_ret (v := .agg #[.int .i64 4, .int .i64 0, .int .u64 0, .string ⟨b.toArray⟩, .slice none 0 0, .slice none 0 0]) (by simp [results, Tryd.results31, go_sem, x0, x1, x2, x3, x4, x5]) rfl ?_
            exact Jr.val_end hgw HB3.out HR3.out (Jr.leaf_lies _ _ 4 0 0 ⟨b.toArray⟩ (by decide)) hb hq
        · rw [if_neg (fun q => h34 ((Jr.head_iff (by decide) L).1 q))] at hO
          rw [decide_eq_false h34] at e34
          by_cases h91 : L.headD 0 = 91
          · rw [if_pos ((Jr.head_iff (by decide) L).2 h91)] at hO
            rw [decide_eq_true h91] at e91
            have hcn := Jr.head_cons (by decide) h91
            have cl := fun u (q : Jr.Rd u g T L) => Jr.listW d E hE g T HVV.out (L.drop 1) u (by rw [← hcn]; exact q)
            clear hcn HVV h91 e123
            generalize (L.headD 0).toNat = C at *
            cases hx : Jr.list (Jr.value d) false 93 (L.drop 1) with
            | none =>
              rw [hx] at hO cl
              have hO : none = O := hO
              subst hO
              clear hx
              go_enter Tryd.func31, Tryd.ntmps31
              go_wp2_with (first | (go_at_call 32; refine bl.mono ?_; rintro e1 w1 ⟨rfl, b1, q1⟩; have HB1 := Lib.hid (Jr.grown_trans (Jr.grown_some HX.out (some g)) b1); have HX1 := Lib.hid (Jr.box_grown HBX.out b1 HG.out); have HZ1 := Lib.hid (Nat.le_trans HSZ.out b1.size); have HR1 := Lib.hid q1; replace pk := pk _ q1; clear b1 q1 bl) | (go_at_call 39; refine pk.mono ?_; rintro e2 w2 ⟨rfl, b2⟩; have HB2 := Lib.hid (Jr.grown_trans HB1.out (Jr.grown_some b2 _)); have HX2 := Lib.hid (Jr.box_grown HX1.out (Jr.grown_some b2 (some g)) HG.out); have HZ2 := Lib.hid (Nat.le_trans HZ1.out b2.size); replace cl := cl _ (HR1.out.on b2); clear b2 pk) | (go_at_call 42; refine cl.mono ?_; rintro e3 w3 ⟨rfl, b3⟩; have HB3 := Lib.hid (Jr.grown_trans HB2.out b3); clear b3 cl))
              exact ⟨rfl, rfl, HB3.out⟩
            | some p =>
              obtain ⟨st, r⟩ := p
              rw [hx] at hO cl
              have hO : some (Js.node 5 st.1 st.2, r) = O := hO
              subst hO
              clear hx
              go_enter Tryd.func31, Tryd.ntmps31
              go_wp2_with (first | (go_at_call 32; refine bl.mono ?_; rintro e1 w1 ⟨rfl, b1, q1⟩; have HB1 := Lib.hid (Jr.grown_trans (Jr.grown_some HX.out (some g)) b1); have HX1 := Lib.hid (Jr.box_grown HBX.out b1 HG.out); have HZ1 := Lib.hid (Nat.le_trans HSZ.out b1.size); have HR1 := Lib.hid q1; replace pk := pk _ q1; clear b1 q1 bl) | (go_at_call 39; refine pk.mono ?_; rintro e2 w2 ⟨rfl, b2⟩; have HB2 := Lib.hid (Jr.grown_trans HB1.out (Jr.grown_some b2 _)); have HX2 := Lib.hid (Jr.box_grown HX1.out (Jr.grown_some b2 (some g)) HG.out); have HZ2 := Lib.hid (Nat.le_trans HZ1.out b2.size); replace cl := cl _ (HR1.out.on b2); clear b2 pk) | (go_at_call 42; refine cl.mono ?_; rintro e3 w3 ⟨v3, rfl, l3, b3, q3⟩; have HL3 := Lib.hid (l3.on (fun k hk => ⟨⟨Nat.le_trans HZ2.out hk.1, hk.2⟩, rfl⟩ : ∀ k, _ → (w.heap.size + 1 ≤ k ∧ k < w3.heap.size) ∧ w3.heap[k]? = w3.heap[k]?)); obtain ⟨k3, y3, z3, s3, ai3, n3, m3, ak3, o3, d3, rfl⟩ := l3.form; have HB3 := Lib.hid (Jr.grown_trans HB2.out b3); have HX3 := Lib.hid (Jr.box_grown HX2.out b3 HG.out); have HR3 := Lib.hid q3; obtain ⟨c0, c1, c2, c3, c4, c5⟩ := HX3.out.cells; have f0 := HX3.out.has.frozen 0; have f1 := HX3.out.has.frozen 1; have f2 := HX3.out.has.frozen 2; have f3 := HX3.out.has.frozen 3; have f4 := HX3.out.has.frozen 4; have f5 := HX3.out.has.frozen 5; clear b3 q3 cl l3))
              obtain ⟨W, hW, hX, hb⟩ := Jr.six HX3.out (.int .i64 k3) (.int .i64 y3) (.int .u64 (z3 : Int)) (.string s3) (.slice ai3 n3 m3) (.slice ak3 o3 d3)
              have hq : ∀ k, k ≠ w.heap.size → W.heap[k]? = w3.heap[k]? := fun k hk => by rw [← hW]; exact Jr.six_other w3 w.heap.size 0 _ _ _ _ _ _ k hk
              rw [hW]
              obtain ⟨x0, x1, x2, x3, x4, x5⟩ := hX.cells
              refine bodyPost_ret (v := .agg #[.int .i64 k3, .int .i64 y3, .int .u64 (z3 : Int), .string s3, .slice ai3 n3 m3, .slice ak3 o3 d3]) (by simp [results, Tryd.results31, go_sem, x0, x1, x2, x3, x4, x5]) rfl ?_
              exact Jr.val_end hgw HB3.out HR3.out HL3.out hb hq
          · rw [if_neg (fun q => h91 ((Jr.head_iff (by decide) L).1 q))] at hO
            rw [decide_eq_false h91] at e91
            by_cases h123 : L.headD 0 = 123
            · rw [if_pos ((Jr.head_iff (by decide) L).2 h123)] at hO
              rw [decide_eq_true h123] at e123
              have hcn := Jr.head_cons (by decide) h123
              have cl := fun u (q : Jr.Rd u g T L) => Jr.recordW d E hE g T HVV.out (L.drop 1) u (by rw [← hcn]; exact q)
              clear hcn HVV h123 
              generalize (L.headD 0).toNat = C at *
              cases hx : Jr.list (Jr.value d) true 125 (L.drop 1) with
              | none =>
                rw [hx] at hO cl
                have hO : none = O := hO
                subst hO
                clear hx
                go_enter Tryd.func31, Tryd.ntmps31
                go_wp2_with (first | (go_at_call 32; refine bl.mono ?_; rintro e1 w1 ⟨rfl, b1, q1⟩; have HB1 := Lib.hid (Jr.grown_trans (Jr.grown_some HX.out (some g)) b1); have HX1 := Lib.hid (Jr.box_grown HBX.out b1 HG.out); have HZ1 := Lib.hid (Nat.le_trans HSZ.out b1.size); have HR1 := Lib.hid q1; replace pk := pk _ q1; clear b1 q1 bl) | (go_at_call 39; refine pk.mono ?_; rintro e2 w2 ⟨rfl, b2⟩; have HB2 := Lib.hid (Jr.grown_trans HB1.out (Jr.grown_some b2 _)); have HX2 := Lib.hid (Jr.box_grown HX1.out (Jr.grown_some b2 (some g)) HG.out); have HZ2 := Lib.hid (Nat.le_trans HZ1.out b2.size); replace cl := cl _ (HR1.out.on b2); clear b2 pk) | (go_at_call 43; refine cl.mono ?_; rintro e3 w3 ⟨rfl, b3⟩; have HB3 := Lib.hid (Jr.grown_trans HB2.out b3); clear b3 cl))
                exact ⟨rfl, rfl, HB3.out⟩
              | some p =>
                obtain ⟨st, r⟩ := p
                rw [hx] at hO cl
                have hO : some (Js.node 6 st.1 st.2, r) = O := hO
                subst hO
                clear hx
                go_enter Tryd.func31, Tryd.ntmps31
                go_wp2_with (first | (go_at_call 32; refine bl.mono ?_; rintro e1 w1 ⟨rfl, b1, q1⟩; have HB1 := Lib.hid (Jr.grown_trans (Jr.grown_some HX.out (some g)) b1); have HX1 := Lib.hid (Jr.box_grown HBX.out b1 HG.out); have HZ1 := Lib.hid (Nat.le_trans HSZ.out b1.size); have HR1 := Lib.hid q1; replace pk := pk _ q1; clear b1 q1 bl) | (go_at_call 39; refine pk.mono ?_; rintro e2 w2 ⟨rfl, b2⟩; have HB2 := Lib.hid (Jr.grown_trans HB1.out (Jr.grown_some b2 _)); have HX2 := Lib.hid (Jr.box_grown HX1.out (Jr.grown_some b2 (some g)) HG.out); have HZ2 := Lib.hid (Nat.le_trans HZ1.out b2.size); replace cl := cl _ (HR1.out.on b2); clear b2 pk) | (go_at_call 43; refine cl.mono ?_; rintro e3 w3 ⟨v3, rfl, l3, b3, q3⟩; have HL3 := Lib.hid (l3.on (fun k hk => ⟨⟨Nat.le_trans HZ2.out hk.1, hk.2⟩, rfl⟩ : ∀ k, _ → (w.heap.size + 1 ≤ k ∧ k < w3.heap.size) ∧ w3.heap[k]? = w3.heap[k]?)); obtain ⟨k3, y3, z3, s3, ai3, n3, m3, ak3, o3, d3, rfl⟩ := l3.form; have HB3 := Lib.hid (Jr.grown_trans HB2.out b3); have HX3 := Lib.hid (Jr.box_grown HX2.out b3 HG.out); have HR3 := Lib.hid q3; obtain ⟨c0, c1, c2, c3, c4, c5⟩ := HX3.out.cells; have f0 := HX3.out.has.frozen 0; have f1 := HX3.out.has.frozen 1; have f2 := HX3.out.has.frozen 2; have f3 := HX3.out.has.frozen 3; have f4 := HX3.out.has.frozen 4; have f5 := HX3.out.has.frozen 5; clear b3 q3 cl l3))
                obtain ⟨W, hW, hX, hb⟩ := Jr.six HX3.out (.int .i64 k3) (.int .i64 y3) (.int .u64 (z3 : Int)) (.string s3) (.slice ai3 n3 m3) (.slice ak3 o3 d3)
                have hq : ∀ k, k ≠ w.heap.size → W.heap[k]? = w3.heap[k]? := fun k hk => by rw [← hW]; exact Jr.six_other w3 w.heap.size 0 _ _ _ _ _ _ k hk
                rw [hW]
                obtain ⟨x0, x1, x2, x3, x4, x5⟩ := hX.cells
                refine bodyPost_ret (v := .agg #[.int .i64 k3, .int .i64 y3, .int .u64 (z3 : Int), .string s3, .slice ai3 n3 m3, .slice ak3 o3 d3]) (by simp [results, Tryd.results31, go_sem, x0, x1, x2, x3, x4, x5]) rfl ?_
                exact Jr.val_end hgw HB3.out HR3.out HL3.out hb hq
            · rw [if_neg (fun q => h123 ((Jr.head_iff (by decide) L).1 q))] at hO
              rw [decide_eq_false h123] at e123
              have cl := fun u q => Jr.numb L g T u q
              rw [Jr.number_eq] at hO
              clear HVV h110 h116 h102 h34 h91 h123
              generalize (L.headD 0).toNat = C at *
              cases hx : Jr.numP L with
              | none =>
                rw [hx] at hO cl
                have hO : none = O := hO
                subst hO
                clear hx
                go_enter Tryd.func31, Tryd.ntmps31
                go_wp2_with (first | (go_at_call 32; refine bl.mono ?_; rintro e1 w1 ⟨rfl, b1, q1⟩; have HB1 := Lib.hid (Jr.grown_trans (Jr.grown_some HX.out (some g)) b1); have HX1 := Lib.hid (Jr.box_grown HBX.out b1 HG.out); have HZ1 := Lib.hid (Nat.le_trans HSZ.out b1.size); have HR1 := Lib.hid q1; replace pk := pk _ q1; clear b1 q1 bl) | (go_at_call 39; refine pk.mono ?_; rintro e2 w2 ⟨rfl, b2⟩; have HB2 := Lib.hid (Jr.grown_trans HB1.out (Jr.grown_some b2 _)); have HX2 := Lib.hid (Jr.box_grown HX1.out (Jr.grown_some b2 (some g)) HG.out); have HZ2 := Lib.hid (Nat.le_trans HZ1.out b2.size); replace cl := cl _ (HR1.out.on b2); clear b2 pk) | (go_at_call 44; refine cl.mono ?_; rintro e3 w3 ⟨rfl, b3⟩; have HB3 := Lib.hid (Jr.grown_trans HB2.out b3); clear b3 cl))
                exact ⟨rfl, rfl, HB3.out⟩
              | some p =>
                obtain ⟨⟨neg, n⟩, r⟩ := p
                rw [hx] at hO cl
                have hO : some (Jr.num neg n, r) = O := hO
                subst hO
                obtain ⟨k3, y3, z3, ev⟩ := Jr.num_form neg n
                have HL := Lib.hid (fun W R => Jr.num_lies W R neg n)
                replace cl : ∀ u, Jr.Rd u g T L → Calls Tryd.prog 44 #[.pointer (some ⟨g, 0, none⟩)] u (Jr.Out (some ((neg, n), r)) (fun _ => .agg #[.int .i64 k3, .int .i64 y3, .int .u64 (z3 : Int), .string ⟨#[]⟩, .slice none 0 0, .slice none 0 0]) u g T) := fun u q => by
                  have := cl u q
                  unfold Jr.Out at this ⊢
                  simp only [ev] at this
                  exact this
                rw [ev] at HL
                clear hx ev
                go_enter Tryd.func31, Tryd.ntmps31
                go_wp2_with (first | (go_at_call 32; refine bl.mono ?_; rintro e1 w1 ⟨rfl, b1, q1⟩; have HB1 := Lib.hid (Jr.grown_trans (Jr.grown_some HX.out (some g)) b1); have HX1 := Lib.hid (Jr.box_grown HBX.out b1 HG.out); have HZ1 := Lib.hid (Nat.le_trans HSZ.out b1.size); have HR1 := Lib.hid q1; replace pk := pk _ q1; clear b1 q1 bl) | (go_at_call 39; refine pk.mono ?_; rintro e2 w2 ⟨rfl, b2⟩; have HB2 := Lib.hid (Jr.grown_trans HB1.out (Jr.grown_some b2 _)); have HX2 := Lib.hid (Jr.box_grown HX1.out (Jr.grown_some b2 (some g)) HG.out); have HZ2 := Lib.hid (Nat.le_trans HZ1.out b2.size); replace cl := cl _ (HR1.out.on b2); clear b2 pk) | (go_at_call 44; refine cl.mono ?_; rintro e3 w3 ⟨rfl, b3, q3⟩; have HB3 := Lib.hid (Jr.grown_trans HB2.out b3); have HX3 := Lib.hid (Jr.box_grown HX2.out b3 HG.out); have HR3 := Lib.hid q3; obtain ⟨c0, c1, c2, c3, c4, c5⟩ := HX3.out.cells; have f0 := HX3.out.has.frozen 0; have f1 := HX3.out.has.frozen 1; have f2 := HX3.out.has.frozen 2; have f3 := HX3.out.has.frozen 3; have f4 := HX3.out.has.frozen 4; have f5 := HX3.out.has.frozen 5; clear b3 q3 cl))
                obtain ⟨W, hW, hX, hb⟩ := Jr.six HX3.out (.int .i64 k3) (.int .i64 y3) (.int .u64 (z3 : Int)) (.string ⟨#[]⟩) (.slice none 0 0) (.slice none 0 0)
                have hq : ∀ k, k ≠ w.heap.size → W.heap[k]? = w3.heap[k]? := fun k hk => by rw [← hW]; exact Jr.six_other w3 w.heap.size 0 _ _ _ _ _ _ k hk
                rw [hW]
                obtain ⟨x0, x1, x2, x3, x4, x5⟩ := hX.cells
                refine bodyPost_ret (v := .agg #[.int .i64 k3, .int .i64 y3, .int .u64 (z3 : Int), .string ⟨#[]⟩, .slice none 0 0, .slice none 0 0]) (by simp [results, Tryd.results31, go_sem, x0, x1, x2, x3, x4, x5]) rfl ?_
                exact Jr.val_end hgw HB3.out HR3.out (HL.out _ _) hb hq
end Go.Proofs.YtiajclmhimkpnaaDoor

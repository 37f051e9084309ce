/-
  THE WALK of the landed reader: quoted.
-/
import Derived.Test.YtboalkfagfgnpaaGreatDoorBJRetoNorm
namespace Go.Proofs.YtboalkfagfgnpaaGreatDoor
open Go.RowKit
def Jr.quo (l : List UInt8) : Option (List UInt8 × List UInt8) := if Pl.pre [34] l = true then Jr.text (l.drop 1) else none
/-- how many bytes are left -/
def Jr.rem (g : Nat) (T : ByteArray) (u : World) : Nat := T.size - (match u.cell? ⟨g, 1, none⟩ with | some v => (intOf v).toNat | none => 0)
theorem Jr.rem_eq {u : World} {g : Nat} {T : ByteArray} {l : List UInt8} (hR : Jr.Rd u g T l) : Jr.rem g T u = l.length := by
  obtain ⟨i, h1, h2, h3, hB⟩ := hR
  have c1 : u.cell? ⟨g, 1, none⟩ = some (.int .i64 (i : Int)) := hB.cell 1 rfl
  unfold Jr.rem
  rw [← h2, List.length_drop, Wk.len_data]
  simp only [c1]
  simp [intOf]
theorem Jr.Rd.len {u : World} {g : Nat} {T : ByteArray} {l : List UInt8} (hR : Jr.Rd u g T l) : l.length ≤ 65536 := by
  obtain ⟨i, h1, h2, h3, hB⟩ := hR
  rw [← h2, List.length_drop, Wk.len_data]
  omega
theorem Jr.isF_grown {T e : TypeId} {B b g : Nat} {bs : List Value} {W W' : World} (h : Lib.IsBuilderF T e B b bs W) (hb : W.grownBy W' (some g)) (hg : g < B) : Lib.IsBuilderF T e B b bs W' := by
  have key : ∀ p, Lib.BuilderAtF T e B b p bs W → Lib.BuilderAtF T e B b p bs W' := fun p h => by
    have hlt := h.lt
    obtain ⟨hB, v, hv, hown, hne⟩ := h
    refine ⟨hB, v, (hb.block b hlt (fun q => by injection q with q; omega)).trans hv, hown.kept hb ?_, hne⟩
    cases hv : v.ownBlock with
    | none => exact .inl rfl
    | some k =>
      refine .inr fun q => ?_
      injection q with q
      subst q
      have := (hown.lt k hv).1
      omega
  exact h.elim (fun x => .inl (key _ x)) (fun x => .inr (key _ x))
/-- a writer's turn, seen from the reader's own entry -/
theorem Jr.grown_more {a b c : World} {g B : Nat} (h : a.grownBy b (some g)) (k : Below B b c) (hB : a.heap.size ≤ B) : a.grownBy c (some g) :=
  ⟨k.os.trans h.os, k.tape.trans h.tape, k.output.trans h.output, Nat.le_trans h.size k.size, fun i hi hne => (k.block i (by omega)).trans (h.block i hi hne)⟩
theorem Jr.Rd.below {w w' : World} {g B : Nat} {T : ByteArray} {l : List UInt8} (h : Jr.Rd w g T l) (hb : Below B w w') (hg : g < B) : Jr.Rd w' g T l := by
  obtain ⟨i, h1, h2, h3, hB⟩ := h
  exact ⟨i, h1, h2, h3, (hb.block g hg).trans hB⟩
set_option maxRecDepth 100000 in
set_option maxHeartbeats 4000000 in
theorem Jr.quoted (l : List UInt8) (g : Nat) (T : ByteArray) (w : World) (h : Jr.Rd w g T l) :
    Calls Tryz.prog 71 #[.pointer (some ⟨g, 0, none⟩)] w (Jr.Out (Jr.quo l) (fun b => .string ⟨b.toArray⟩) w g T) := by
  unfold Jr.quo
  have hgw := h.lt
  by_cases hp : Pl.pre [34] l = true
  · rw [if_pos hp]
    have wd := Jr.word ⟨#[34]⟩ l hp g T w h
    rw [show (⟨#[34]⟩ : ByteArray).size = 1 from rfl] at wd
    obtain ⟨O, hO⟩ : ∃ O, Jr.text (l.drop 1) = O := ⟨_, rfl⟩
    rw [hO]
    have HO := Lib.hid hO
    clear hO h hp
    generalize l.drop 1 = l1 at *
    go_enter Tryz.func71, Tryz.ntmps71
    go_wp2_with (go_at_call 70; refine wd.mono ?_; rintro e w1 ⟨rfl, b1, q1⟩; have HB1 := Lib.hid b1; have HR1 := Lib.hid q1; clear b1 q1 wd)
    have hw1 : w.heap.size ≤ w1.heap.size := HB1.out.size
    have HI1 : Hid (Lib.IsBuilderF 46 5 w1.heap.size w1.heap.size (Lib.byteCells []) (w1.alloc (.cells #[.pointer none, .slice none 0 0] 46))) := .of (Lib.fresh_isBuilder 46 5 w1)
    have HB2 := Lib.hid (Jr.grown_more HB1.out ((Below.refl w1.heap.size w1).alloc (Nat.le_refl _) (.cells #[.pointer none, .slice none 0 0] 46)) hw1)
    have HR2 := Lib.hid (HR1.out.below ((Below.refl w1.heap.size w1).alloc (Nat.le_refl _) (.cells #[.pointer none, .slice none 0 0] 46)) (by omega))
    have HW : Hid (w1.heap.size + 1 ≤ (w1.alloc (.cells #[.pointer none, .slice none 0 0] 46)).heap.size) := by unfold Hid; simp
    generalize w1.alloc (.cells #[.pointer none, .slice none 0 0] 46) = w2 at *
    generalize w1.heap.size = B at *
    clear HB1 HR1
    have hgB : g < B := by omega
    go_loopw [] (fun wr => ∃ (acc l' : List UInt8), Hid ((Jr.text l').map (fun p => (acc ++ p.1, p.2)) = O) ∧ Hid (acc.length + 4 * l'.length ≤ 262144) ∧ Hid (Jr.Rd wr g T l') ∧ Hid (Lib.IsBuilderF 46 5 B B (Lib.byteCells acc) wr) ∧ Hid (w.grownBy wr (some g)) ∧ Hid (B + 1 ≤ wr.heap.size)) (fun wr => Jr.rem g T wr)
    case atStart => exact ⟨[], l1, by unfold Hid; rw [← HO.out]; cases Jr.text l1 <;> rfl, by have := HR2.out.len; unfold Hid; simp; omega, HR2, HI1, HB2, HW⟩
    case round =>
      clear HB2 HR2 HI1 HW HO
      obtain ⟨acc, l', HO, HN, HR, HI, HG, HW⟩ := hrel
      have HL := Lib.hid (Jr.rem_eq HR.out)
      cases l' with
      | nil =>
        have tk := Jr.take_end g T wr HR.out
        have e : none = O := HO.out
        subst e
        clear HO
        go_wp2_with (go_at_call 100; refine tk.mono ?_; rintro e w3 ⟨rfl, b3⟩)
        exact ⟨rfl, rfl, Jr.grown_trans HG.out b3⟩
      | cons c r =>
        have tk := Jr.take c r g T wr HR.out
        have e34 : ((c.toNat : Int) == 34) = decide (c = 34) := Jr.eq_dec c 34
        have e92 : ((c.toNat : Int) == 92) = decide (c = 92) := Jr.eq_dec c 92
        by_cases h34 : c = 34
        · rw [decide_eq_true h34] at e34
          have HO2 : Hid (some (acc, r) = O) := by
            have := HO.out
            rw [h34, Jr.text_end, Option.map_some, List.append_nil] at this
            exact this
          clear h34 HO e92
          have e := HO2.out
          subst e
          clear HO2
          go_wp2_with (first | (go_at_call 100; refine tk.mono ?_; rintro e w3 ⟨rfl, b3, q3⟩; have HB3 := Lib.hid (Jr.grown_trans HG.out b3); have HR3 := Lib.hid q3; have HI3 := Lib.hid (Jr.isF_grown HI.out b3 hgB); have HW3 := Lib.hid (Nat.le_trans HW.out b3.size); clear b3 q3 tk) | (go_at_call 18; refine (Sh.Builder_String_any_k B B acc _ HI3.out (by have := HW3.out; omega)).mono ?_; rintro e w4 ⟨rfl, _, b4, _⟩; have HB4 := Lib.hid (Jr.grown_more HB3.out b4 hw1); have HR4 := Lib.hid (HR3.out.below b4 hgB); clear b4))
          go_ret
          exact ⟨rfl, HB4.out, HR4.out⟩
        · rw [decide_eq_false h34] at e34
          by_cases h92 : c = 92
          · rw [decide_eq_true h92] at e92
            have es := fun u q => Jr.escape r g T u q
            rw [h92, Jr.text_esc] at HO
            have hlt : (c.toNat : Int) = 92 := by rw [h92]; rfl
            clear h34 h92
            cases he : Jr.escaped r with
            | none =>
              rw [he] at es
              have e : none = O := by have := HO.out; rw [he] at this; exact this
              subst e
              clear HO he
              go_wp2_with (first | (go_at_call 100; refine tk.mono ?_; rintro e w3 ⟨rfl, b3, q3⟩; have HB3 := Lib.hid (Jr.grown_trans HG.out b3); replace es := es _ q3; clear b3 q3 tk) | (go_at_call 101; refine es.mono ?_; rintro e w4 ⟨rfl, b4⟩; have HB4 := Lib.hid (Jr.grown_trans HB3.out b4); clear b4))
              exact ⟨rfl, rfl, HB4.out⟩
            | some p =>
              obtain ⟨x, r1⟩ := p
              rw [he] at es
              obtain ⟨hx, -, hlen⟩ := Jr.escaped_lt he
              have HO2 : Hid ((Jr.text r1).map (fun p => ((acc ++ Lib.encodeRune (x : Int)) ++ p.1, p.2)) = O) := by
                have := HO.out
                rw [he] at this
                unfold Hid
                rw [← this]
                simp only
                cases Jr.text r1 <;> simp
              have hxl : (x : Int) ≤ 1114111 := by omega
              have hrl : (Lib.encodeRune (x : Int)).length ≤ 4 := by
                rw [Jr.rune x hx]
                split
                · simp
                · exact Pl.runeL_len _
              have HN2 : Hid ((acc ++ Lib.encodeRune (x : Int)).length + 4 * r1.length ≤ 262144) := by
                have := HN.out
                unfold Hid
                rw [List.length_append]
                simp only [List.length_cons] at this
                omega
              have HM : Hid (r1.length < Jr.rem g T wr) := by
                unfold Hid
                rw [HL.out, List.length_cons]
                omega
              have hcells : Lib.byteCells acc ++ Lib.runeCells (x : Int) = Lib.byteCells (acc ++ Lib.encodeRune (x : Int)) := by rw [Lib.byteCells_append, Lib.byteCells_encodeRune]
              clear HO he hx hlen hrl
              go_wp2_with (first | (go_at_call 100; refine tk.mono ?_; rintro e w3 ⟨rfl, b3, q3⟩; have HB3 := Lib.hid (Jr.grown_trans HG.out b3); have HI3 := Lib.hid (Jr.isF_grown HI.out b3 hgB); have HW3 := Lib.hid (Nat.le_trans HW.out b3.size); replace es := es _ q3; clear b3 q3 tk) | (go_at_call 101; refine es.mono ?_; rintro e w4 ⟨rfl, b4, q4⟩; have HB4 := Lib.hid (Jr.grown_trans HB3.out b4); have HI4 := Lib.hid (Jr.isF_grown HI3.out b4 hgB); have HW4 := Lib.hid (Nat.le_trans HW3.out b4.size); have HR4 := Lib.hid q4; clear b4 q4 es) | (go_at_call 95; refine (Sh.Builder_WriteRune_k B B (Lib.byteCells acc) (x : Int) (by omega) (by omega) _ HI4.out (by rw [Lib.byteCells_length]; have := HN.out; omega) (by have := HW4.out; omega)).mono ?_; rintro e w5 ⟨rfl, i5, b5, _⟩; rw [hcells] at i5; have HI5 : Hid (Lib.IsBuilderF 46 5 B B (Lib.byteCells (acc ++ Lib.encodeRune (x : Int))) w5) := .inr i5; have HB5 := Lib.hid (Jr.grown_more HB4.out b5 hw1); have HR5 := Lib.hid (HR4.out.below b5 hgB); have HW5 := Lib.hid (Nat.le_trans HW4.out b5.size); clear i5 b5))
              go_roundw
              case rel => exact ⟨_, r1, HO2, HN2, HR5, HI5, HB5, HW5⟩
              case measure => rw [Jr.rem_eq HR5.out]; exact HM.out
          · rw [decide_eq_false h92] at e92
            by_cases h32 : c.toNat < 32
            · have d32 : decide ((c.toNat : Int) < 32) = true := decide_eq_true (by omega)
              have e : none = O := by
                have := HO.out
                rw [Jr.text_low r h32] at this
                exact this
              subst e
              clear HO h34 h92 h32
              generalize (c.toNat : Int) = C at *
              go_wp2_with (go_at_call 100; refine tk.mono ?_; rintro e w3 ⟨rfl, b3, q3⟩; have HB3 := Lib.hid (Jr.grown_trans HG.out b3); clear b3 q3 tk)
              exact ⟨rfl, rfl, HB3.out⟩
            · have d32 : decide ((c.toNat : Int) < 32) = false := decide_eq_false (by omega)
              have HO2 : Hid ((Jr.text r).map (fun p => ((acc ++ [c]) ++ p.1, p.2)) = O) := by
                have := HO.out
                rw [Jr.text_byte r h34 h92 h32] at this
                unfold Hid
                rw [← this]
                cases Jr.text r <;> simp
              have HN2 : Hid ((acc ++ [c]).length + 4 * r.length ≤ 262144) := by
                have := HN.out
                unfold Hid
                rw [List.length_append]
                simp only [List.length_cons, List.length_nil] at this ⊢
                omega
              have HM : Hid (r.length < Jr.rem g T wr) := by
                unfold Hid
                rw [HL.out, List.length_cons]
                omega
              have hcells : Lib.byteCells acc ++ [.int .u8 (c.toNat : Int)] = Lib.byteCells (acc ++ [c]) := by rw [Lib.byteCells_append]; rfl
              clear HO h34 h92 h32 HL
              generalize (acc ++ [c]) = acc2 at *
              generalize (c.toNat : Int) = C at *
              go_wp2_with (first | (go_at_call 100; refine tk.mono ?_; rintro e w3 ⟨rfl, b3, q3⟩; have HB3 := Lib.hid (Jr.grown_trans HG.out b3); have HR3 := Lib.hid q3; have HI3 := Lib.hid (Jr.isF_grown HI.out b3 hgB); have HW3 := Lib.hid (Nat.le_trans HW.out b3.size); clear b3 q3 tk) | (go_at_call 43; refine (Sh.Builder_WriteByte_k B B (Lib.byteCells acc) C _ HI3.out (by rw [Lib.byteCells_length]; have := HN.out; omega) (by have := HW3.out; omega)).mono ?_; rintro e w4 ⟨rfl, i4, b4, _⟩; rw [hcells] at i4; have HI4 : Hid (Lib.IsBuilderF 46 5 B B (Lib.byteCells acc2) w4) := .inr i4; have HB4 := Lib.hid (Jr.grown_more HB3.out b4 hw1); have HR4 := Lib.hid (HR3.out.below b4 hgB); have HW4 := Lib.hid (Nat.le_trans HW3.out b4.size); clear i4 b4))
              go_roundw
              case rel => exact ⟨acc2, r, HO2, HN2, HR4, HI4, HB4, HW4⟩
              case measure => rw [Jr.rem_eq HR4.out]; exact HM.out
  · rw [if_neg hp]
    have wd := Jr.word_no ⟨#[34]⟩ l (Bool.eq_false_iff.2 hp) g T w h
    clear hp h
    go_enter Tryz.func71, Tryz.ntmps71
    go_wp2_with (go_at_call 70; refine wd.mono ?_; rintro e w1 ⟨rfl, b1⟩)
    exact ⟨rfl, rfl, b1⟩
end Go.Proofs.YtboalkfagfgnpaaGreatDoor

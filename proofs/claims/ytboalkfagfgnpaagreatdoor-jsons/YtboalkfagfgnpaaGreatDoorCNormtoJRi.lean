/-
  THE WALK of utf.Norm: it returns what 'Pl.normL' gives of the bytes (texts of up to 2^45 bytes: a Builder's room), and turns nothing that was there.
-/
import Derived.Test.YtboalkfagfgnpaaGreatDoorCShelftoSign
import Derived.Test.YtboalkfagfgnpaaGreatDoorCJRctoJRe
import Derived.Test.YtboalkfagfgnpaaGreatDoorCJRd2toJRh
namespace Go.Proofs.YtboalkfagfgnpaaGreatDoor
open Go.RowKit

theorem Wk.atF_below {T e : TypeId} {B b : Nat} {p : Value} {bs : List Value} {W W' : World} (h : Lib.BuilderAtF T e B b p bs W) (hb : Below W.heap.size W W') : Lib.BuilderAtF T e B b p bs W' := by
  have hlt := h.lt
  obtain ⟨hB, v, hv, hown, hne⟩ := h
  exact ⟨hB, v, (hb.block b hlt).trans hv, hown.kept (row := none) ⟨hb.os, hb.tape, hb.output, hb.size, fun k hk _ => hb.block k hk⟩ (Classical.em _), hne⟩
theorem Wk.isF_below {T e : TypeId} {B b : Nat} {bs : List Value} {W W' : World} (h : Lib.IsBuilderF T e B b bs W) (hb : Below W.heap.size W W') : Lib.IsBuilderF T e B b bs W' :=
  h.elim (fun x => .inl (Wk.atF_below x hb)) (fun x => .inr (Wk.atF_below x hb))
theorem Wk.part_data (s : ByteArray) (k m : Nat) : (s.extract k (k + m)).data.toList = (s.data.toList.drop k).take m := by
  rw [Lib.extract_data, Nat.add_sub_cancel_left]
theorem Wk.part_size (s : ByteArray) (k m : Nat) (h : k + m ≤ s.size) : (s.extract k (k + m)).size = m := by
  rw [← Wk.len_data, Wk.part_data, List.length_take, List.length_drop, Wk.len_data]; omega

/-- a text from one place to another -/
theorem Wk.run_cut (w : World) (s : ByteArray) (l h : Int) (h0 : 0 ≤ l) (h1 : l ≤ h) (h2 : h ≤ s.size) :
    (Instr.slice 9 (.string s) (some (.int .i64 l)) (some (.int .i64 h)) none).run Tryz.prog w = .ok (.string (s.extract l.toNat h.toNat)) w := by
  have eh : (h.toNat : Int) = h := Int.toNat_of_nonneg (by omega)
  simp [Instr.slice, run_underlying Tryz.underlying9, Instr.sliceBounds, run_sliceBound, h0, h1, h2, eh, (by omega : 0 ≤ h)]
theorem Wk.ret_str {a b : List UInt8} (h : a = b) : Ending.returned (.string ⟨a.toArray⟩) = .returned (.string ⟨b.toArray⟩) := by rw [h]

set_option maxHeartbeats 1000000 in
theorem Wk.norm (s : ByteArray) (w : World) (hT : Lib.Utf8Tabs 1 2 w) (hs : s.size ≤ 35184372088832) :
    Calls Tryz.prog 90 #[.string s] w fun e w' => e = .returned (.string ⟨(Pl.normL s.data.toList).toArray⟩) ∧ Below w.heap.size w w' := by
  have c0 := Sh.Builder_Grow_fresh w.heap.size w.heap.size s.size (w.alloc (.cells #[.pointer none, .slice none 0 0] 46)) (Nat.le_refl _) (heap_alloc_new w _) (by simp) (by omega)
  go_enter Tryz.func90, Tryz.ntmps90
  go_wp2_with (go_at_call 92; refine c0.mono ?_; rintro e w0 ⟨rfl, hB0, hb0⟩)
  have hbw0 : Below w.heap.size w w0 := ((Below.refl _ _).alloc (Nat.le_refl _) _).trans hb0
  have hI0 : Lib.IsBuilderF 46 5 w.heap.size w.heap.size (Lib.byteCells []) w0 := .inr (Lib.BuilderAtF.of hB0)
  clear c0 hB0 hb0
  go_loopw [4] (fun i wr => ∃ (k : Nat) (acc : List UInt8), k ≤ s.size ∧ i = .int .i64 k ∧ Lib.IsBuilderF 46 5 w.heap.size w.heap.size (Lib.byteCells acc) wr ∧ Below w.heap.size w wr ∧ Hid (acc ++ Pl.normL (s.data.toList.drop k) = Pl.normL s.data.toList) ∧ acc.length ≤ 3 * k) (fun i _ => s.size - (intOf i).toNat)
  case atStart => exact ⟨0, [], Nat.zero_le _, rfl, hI0, hbw0, rfl, Nat.le_refl _⟩
  case round =>
    clear hI0 hbw0
    obtain ⟨k, acc, hk, rfl, hI, hb, hn, hal⟩ := hrel
    have c := Wk.sign_at s k wr (Utf8Tabs_below hT hb)
    have hsz := hb.size
    by_cases hlt : k < s.size
    · have hle := Pl.sgn_le (s.data.toList.drop k)
      rw [List.length_drop, Wk.len_data] at hle
      obtain ⟨m, hmm⟩ : ∃ m, Pl.sgn (s.data.toList.drop k) = m := ⟨_, rfl⟩
      rw [hmm] at c hle
      have HM : Hid (Pl.sgn (s.data.toList.drop k) = m) := hmm
      clear hmm
      by_cases h0 : m = 0
      · have hz : ((m : Int) == 0) = true := beq_iff_eq.2 (by omega)
        go_wp2_with (go_at_call 47; refine c.mono ?_; rintro e w1 ⟨rfl, hb1⟩)
        refine (Sh.Builder_WriteString_k w.heap.size w.heap.size _ _ w1 (Wk.isF_below hI hb1) (by rw [Lib.byteCells_length]; show acc.length + 3 ≤ _; omega) (by have := hb1.size; omega)).mono ?_
        rintro e w2 ⟨rfl, hI2, hb2, _⟩
        have hb' : Below w.heap.size w w2 := (Wk.below_step hb hb1).trans hb2
        have hI' : Lib.IsBuilderF 46 5 w.heap.size w.heap.size (Lib.byteCells (acc ++ Pl.fffd)) w2 := by
          rw [Lib.byteCells_append]; exact .inr hI2
        have HN : Hid ((acc ++ Pl.fffd) ++ Pl.normL (s.data.toList.drop (k + 1)) = Pl.normL s.data.toList) := by
          have h1 := Pl.normL_bad _ (Wk.drop_ne s k hlt) (HM.out.trans h0)
          rw [List.drop_drop] at h1
          show _ = _
          rw [← hn.out, h1, List.append_assoc]
        clear hI hI2 hb1 hb2 c hn HM
        go_wp2
        go_roundw
        case rel => exact ⟨k + 1, acc ++ Pl.fffd, by omega, by go_num, hI', hb', HN, by simp [Pl.fffd]; omega⟩
        case measure => simp [intOf]; omega
      · have hz : ((m : Int) == 0) = false := beq_eq_false_iff_ne.2 (by omega)
        have hcut : ∀ u : World, (Instr.slice 9 (.string s) (some (.int .i64 (k : Int))) (some (.int .i64 ((k : Int) + (m : Int)))) none).run Tryz.prog u = .ok (.string (s.extract k (k + m))) u := fun u => by
          have h := Wk.run_cut u s (k : Int) ((k : Int) + (m : Int)) (by omega) (by omega) (by omega)
          rwa [show ((k : Int) + (m : Int)).toNat = k + m by omega, Int.toNat_natCast] at h
        have hps := Wk.part_size s k m (by omega)
        have hpd := Wk.part_data s k m
        generalize s.extract k (k + m) = part at hcut hps hpd
        have HPS := hps
        have HPD : Hid (part.data.toList = (s.data.toList.drop k).take m) := hpd
        clear hps hpd
        go_wp2_with (go_at_call 47; refine c.mono ?_; rintro e w1 ⟨rfl, hb1⟩)
        refine (Sh.Builder_WriteString_k w.heap.size w.heap.size _ _ w1 (Wk.isF_below hI hb1) (by rw [Lib.byteCells_length]; omega) (by have := hb1.size; omega)).mono ?_
        rintro e w2 ⟨rfl, hI2, hb2, _⟩
        have hb' : Below w.heap.size w w2 := (Wk.below_step hb hb1).trans hb2
        have hI' : Lib.IsBuilderF 46 5 w.heap.size w.heap.size (Lib.byteCells (acc ++ (s.data.toList.drop k).take m)) w2 := by
          rw [Lib.byteCells_append, ← HPD.out]; exact .inr hI2
        have HN : Hid ((acc ++ (s.data.toList.drop k).take m) ++ Pl.normL (s.data.toList.drop (k + m)) = Pl.normL s.data.toList) := by
          have h1 := Pl.normL_sign (s.data.toList.drop k) (by rw [HM.out]; exact h0)
          rw [HM.out, List.drop_drop] at h1
          show _ = _
          rw [← hn.out, h1, List.append_assoc]
        clear hI hI2 hb1 hb2 c hn HM HPD HPS hcut
        go_wp2
        go_roundw
        case rel => exact ⟨k + m, acc ++ (s.data.toList.drop k).take m, by omega, by go_num, hI', hb', HN, by simp; omega⟩
        case measure => simp [intOf]; omega
    · have hke : k = s.size := by omega
      go_wp2_with (go_at_call 18; refine (Sh.Builder_String_any_k w.heap.size w.heap.size acc _ hI (by omega)).mono ?_; rintro e w1 ⟨rfl, _, hb1, _⟩)
      go_ret
      refine ⟨Wk.ret_str ?_, hb.trans hb1⟩
      have := hn.out
      rwa [hke, List.drop_of_length_le (by rw [Wk.len_data]; exact Nat.le_refl _), Pl.normL_nil, List.append_nil] at this
end Go.Proofs.YtboalkfagfgnpaaGreatDoor
/-
  THE WALK of the landed reader: quoted.
-/
namespace Go.Proofs.YtboalkfagfgnpaaGreatDoor
open Go.RowKit
def Jr.quo (l : List UInt8) : Option (List UInt8 × List UInt8) := if Pl.pre [34] l = true then Jr.text (l.drop 1) else none
/-- how many bytes are left -/
def Jr.rem (g : Nat) (T : ByteArray) (u : World) : Nat := T.size - (match u.cell? ⟨g, 1, none⟩ with | some v => (intOf v).toNat | none => 0)
theorem Jr.rem_eq {u : World} {g : Nat} {T : ByteArray} {l : List UInt8} (hR : Jr.Rd u g T l) : Jr.rem g T u = l.length := by
  obtain ⟨i, h1, h2, h3, hB⟩ := hR
  have c1 : u.cell? ⟨g, 1, none⟩ = some (.int .i64 (i : Int)) := hB.cell 1 rfl
  unfold Jr.rem
  rw [← h2, List.length_drop, Wk.len_data]
  simp only [c1]
  simp [intOf]
theorem Jr.Rd.len {u : World} {g : Nat} {T : ByteArray} {l : List UInt8} (hR : Jr.Rd u g T l) : l.length ≤ 65536 := by
  obtain ⟨i, h1, h2, h3, hB⟩ := hR
  rw [← h2, List.length_drop, Wk.len_data]
  omega
theorem Jr.isF_grown {T e : TypeId} {B b g : Nat} {bs : List Value} {W W' : World} (h : Lib.IsBuilderF T e B b bs W) (hb : W.grownBy W' (some g)) (hg : g < B) : Lib.IsBuilderF T e B b bs W' := by
  have key : ∀ p, Lib.BuilderAtF T e B b p bs W → Lib.BuilderAtF T e B b p bs W' := fun p h => by
    have hlt := h.lt
    obtain ⟨hB, v, hv, hown, hne⟩ := h
    refine ⟨hB, v, (hb.block b hlt (fun q => by injection q with q; omega)).trans hv, hown.kept hb ?_, hne⟩
    cases hv : v.ownBlock with
    | none => exact .inl rfl
    | some k =>
      refine .inr fun q => ?_
      injection q with q
      subst q
      have := (hown.lt k hv).1
      omega
  exact h.elim (fun x => .inl (key _ x)) (fun x => .inr (key _ x))
/-- a writer's turn, seen from the reader's own entry -/
theorem Jr.grown_more {a b c : World} {g B : Nat} (h : a.grownBy b (some g)) (k : Below B b c) (hB : a.heap.size ≤ B) : a.grownBy c (some g) :=
  ⟨k.os.trans h.os, k.tape.trans h.tape, k.output.trans h.output, Nat.le_trans h.size k.size, fun i hi hne => (k.block i (by omega)).trans (h.block i hi hne)⟩
theorem Jr.Rd.below {w w' : World} {g B : Nat} {T : ByteArray} {l : List UInt8} (h : Jr.Rd w g T l) (hb : Below B w w') (hg : g < B) : Jr.Rd w' g T l := by
  obtain ⟨i, h1, h2, h3, hB⟩ := h
  exact ⟨i, h1, h2, h3, (hb.block g hg).trans hB⟩
set_option maxRecDepth 100000 in
set_option maxHeartbeats 4000000 in
theorem Jr.quoted (l : List UInt8) (g : Nat) (T : ByteArray) (w : World) (h : Jr.Rd w g T l) :
    Calls Tryz.prog 71 #[.pointer (some ⟨g, 0, none⟩)] w (Jr.Out (Jr.quo l) (fun b => .string ⟨b.toArray⟩) w g T) := by
  unfold Jr.quo
  have hgw := h.lt
  by_cases hp : Pl.pre [34] l = true
  · rw [if_pos hp]
    have wd := Jr.word ⟨#[34]⟩ l hp g T w h
    rw [show (⟨#[34]⟩ : ByteArray).size = 1 from rfl] at wd
    obtain ⟨O, hO⟩ : ∃ O, Jr.text (l.drop 1) = O := ⟨_, rfl⟩
    rw [hO]
    have HO := Lib.hid hO
    clear hO h hp
    generalize l.drop 1 = l1 at *
    go_enter Tryz.func71, Tryz.ntmps71
    go_wp2_with (go_at_call 70; refine wd.mono ?_; rintro e w1 ⟨rfl, b1, q1⟩; have HB1 := Lib.hid b1; have HR1 := Lib.hid q1; clear b1 q1 wd)
    have hw1 : w.heap.size ≤ w1.heap.size := HB1.out.size
    have HI1 : Hid (Lib.IsBuilderF 46 5 w1.heap.size w1.heap.size (Lib.byteCells []) (w1.alloc (.cells #[.pointer none, .slice none 0 0] 46))) := .of (Lib.fresh_isBuilder 46 5 w1)
    have HB2 := Lib.hid (Jr.grown_more HB1.out ((Below.refl w1.heap.size w1).alloc (Nat.le_refl _) (.cells #[.pointer none, .slice none 0 0] 46)) hw1)
    have HR2 := Lib.hid (HR1.out.below ((Below.refl w1.heap.size w1).alloc (Nat.le_refl _) (.cells #[.pointer none, .slice none 0 0] 46)) (by omega))
    have HW : Hid (w1.heap.size + 1 ≤ (w1.alloc (.cells #[.pointer none, .slice none 0 0] 46)).heap.size) := by unfold Hid; simp
    generalize w1.alloc (.cells #[.pointer none, .slice none 0 0] 46) = w2 at *
    generalize w1.heap.size = B at *
    clear HB1 HR1
    have hgB : g < B := by omega
    go_loopw [] (fun wr => ∃ (acc l' : List UInt8), Hid ((Jr.text l').map (fun p => (acc ++ p.1, p.2)) = O) ∧ Hid (acc.length + 4 * l'.length ≤ 262144) ∧ Hid (Jr.Rd wr g T l') ∧ Hid (Lib.IsBuilderF 46 5 B B (Lib.byteCells acc) wr) ∧ Hid (w.grownBy wr (some g)) ∧ Hid (B + 1 ≤ wr.heap.size)) (fun wr => Jr.rem g T wr)
    case atStart => exact ⟨[], l1, by unfold Hid; rw [← HO.out]; cases Jr.text l1 <;> rfl, by have := HR2.out.len; unfold Hid; simp; omega, HR2, HI1, HB2, HW⟩
    case round =>
      clear HB2 HR2 HI1 HW HO
      obtain ⟨acc, l', HO, HN, HR, HI, HG, HW⟩ := hrel
      have HL := Lib.hid (Jr.rem_eq HR.out)
      cases l' with
      | nil =>
        have tk := Jr.take_end g T wr HR.out
        have e : none = O := HO.out
        subst e
        clear HO
        go_wp2_with (go_at_call 100; refine tk.mono ?_; rintro e w3 ⟨rfl, b3⟩)
        exact ⟨rfl, rfl, Jr.grown_trans HG.out b3⟩
      | cons c r =>
        have tk := Jr.take c r g T wr HR.out
        have e34 : ((c.toNat : Int) == 34) = decide (c = 34) := Jr.eq_dec c 34
        have e92 : ((c.toNat : Int) == 92) = decide (c = 92) := Jr.eq_dec c 92
        by_cases h34 : c = 34
        · rw [decide_eq_true h34] at e34
          have HO2 : Hid (some (acc, r) = O) := by
            have := HO.out
            rw [h34, Jr.text_end, Option.map_some, List.append_nil] at this
            exact this
          clear h34 HO e92
          have e := HO2.out
          subst e
          clear HO2
          go_wp2_with (first | (go_at_call 100; refine tk.mono ?_; rintro e w3 ⟨rfl, b3, q3⟩; have HB3 := Lib.hid (Jr.grown_trans HG.out b3); have HR3 := Lib.hid q3; have HI3 := Lib.hid (Jr.isF_grown HI.out b3 hgB); have HW3 := Lib.hid (Nat.le_trans HW.out b3.size); clear b3 q3 tk) | (go_at_call 18; refine (Sh.Builder_String_any_k B B acc _ HI3.out (by have := HW3.out; omega)).mono ?_; rintro e w4 ⟨rfl, _, b4, _⟩; have HB4 := Lib.hid (Jr.grown_more HB3.out b4 hw1); have HR4 := Lib.hid (HR3.out.below b4 hgB); clear b4))
          go_ret
          exact ⟨rfl, HB4.out, HR4.out⟩
        · rw [decide_eq_false h34] at e34
          by_cases h92 : c = 92
          · rw [decide_eq_true h92] at e92
            have es := fun u q => Jr.escape r g T u q
            rw [h92, Jr.text_esc] at HO
            have hlt : (c.toNat : Int) = 92 := by rw [h92]; rfl
            clear h34 h92
            cases he : Jr.escaped r with
            | none =>
              rw [he] at es
              have e : none = O := by have := HO.out; rw [he] at this; exact this
              subst e
              clear HO he
              go_wp2_with (first | (go_at_call 100; refine tk.mono ?_; rintro e w3 ⟨rfl, b3, q3⟩; have HB3 := Lib.hid (Jr.grown_trans HG.out b3); replace es := es _ q3; clear b3 q3 tk) | (go_at_call 101; refine es.mono ?_; rintro e w4 ⟨rfl, b4⟩; have HB4 := Lib.hid (Jr.grown_trans HB3.out b4); clear b4))
              exact ⟨rfl, rfl, HB4.out⟩
            | some p =>
              obtain ⟨x, r1⟩ := p
              rw [he] at es
              obtain ⟨hx, -, hlen⟩ := Jr.escaped_lt he
              have HO2 : Hid ((Jr.text r1).map (fun p => ((acc ++ Lib.encodeRune (x : Int)) ++ p.1, p.2)) = O) := by
                have := HO.out
                rw [he] at this
                unfold Hid
                rw [← this]
                simp only
                cases Jr.text r1 <;> simp
              have hxl : (x : Int) ≤ 1114111 := by omega
              have hrl : (Lib.encodeRune (x : Int)).length ≤ 4 := by
                rw [Jr.rune x hx]
                split
                · simp
                · exact Pl.runeL_len _
              have HN2 : Hid ((acc ++ Lib.encodeRune (x : Int)).length + 4 * r1.length ≤ 262144) := by
                have := HN.out
                unfold Hid
                rw [List.length_append]
                simp only [List.length_cons] at this
                omega
              have HM : Hid (r1.length < Jr.rem g T wr) := by
                unfold Hid
                rw [HL.out, List.length_cons]
                omega
              have hcells : Lib.byteCells acc ++ Lib.runeCells (x : Int) = Lib.byteCells (acc ++ Lib.encodeRune (x : Int)) := by rw [Lib.byteCells_append, Lib.byteCells_encodeRune]
              clear HO he hx hlen hrl
              go_wp2_with (first | (go_at_call 100; refine tk.mono ?_; rintro e w3 ⟨rfl, b3, q3⟩; have HB3 := Lib.hid (Jr.grown_trans HG.out b3); have HI3 := Lib.hid (Jr.isF_grown HI.out b3 hgB); have HW3 := Lib.hid (Nat.le_trans HW.out b3.size); replace es := es _ q3; clear b3 q3 tk) | (go_at_call 101; refine es.mono ?_; rintro e w4 ⟨rfl, b4, q4⟩; have HB4 := Lib.hid (Jr.grown_trans HB3.out b4); have HI4 := Lib.hid (Jr.isF_grown HI3.out b4 hgB); have HW4 := Lib.hid (Nat.le_trans HW3.out b4.size); have HR4 := Lib.hid q4; clear b4 q4 es) | (go_at_call 95; refine (Sh.Builder_WriteRune_k B B (Lib.byteCells acc) (x : Int) (by omega) (by omega) _ HI4.out (by rw [Lib.byteCells_length]; have := HN.out; omega) (by have := HW4.out; omega)).mono ?_; rintro e w5 ⟨rfl, i5, b5, _⟩; rw [hcells] at i5; have HI5 : Hid (Lib.IsBuilderF 46 5 B B (Lib.byteCells (acc ++ Lib.encodeRune (x : Int))) w5) := .inr i5; have HB5 := Lib.hid (Jr.grown_more HB4.out b5 hw1); have HR5 := Lib.hid (HR4.out.below b5 hgB); have HW5 := Lib.hid (Nat.le_trans HW4.out b5.size); clear i5 b5))
              go_roundw
              case rel => exact ⟨_, r1, HO2, HN2, HR5, HI5, HB5, HW5⟩
              case measure => rw [Jr.rem_eq HR5.out]; exact HM.out
          · rw [decide_eq_false h92] at e92
            by_cases h32 : c.toNat < 32
            · have d32 : decide ((c.toNat : Int) < 32) = true := decide_eq_true (by omega)
              have e : none = O := by
                have := HO.out
                rw [Jr.text_low r h32] at this
                exact this
              subst e
              clear HO h34 h92 h32
              generalize (c.toNat : Int) = C at *
              go_wp2_with (go_at_call 100; refine tk.mono ?_; rintro e w3 ⟨rfl, b3, q3⟩; have HB3 := Lib.hid (Jr.grown_trans HG.out b3); clear b3 q3 tk)
              exact ⟨rfl, rfl, HB3.out⟩
            · have d32 : decide ((c.toNat : Int) < 32) = false := decide_eq_false (by omega)
              have HO2 : Hid ((Jr.text r).map (fun p => ((acc ++ [c]) ++ p.1, p.2)) = O) := by
                have := HO.out
                rw [Jr.text_byte r h34 h92 h32] at this
                unfold Hid
                rw [← this]
                cases Jr.text r <;> simp
              have HN2 : Hid ((acc ++ [c]).length + 4 * r.length ≤ 262144) := by
                have := HN.out
                unfold Hid
                rw [List.length_append]
                simp only [List.length_cons, List.length_nil] at this ⊢
                omega
              have HM : Hid (r.length < Jr.rem g T wr) := by
                unfold Hid
                rw [HL.out, List.length_cons]
                omega
              have hcells : Lib.byteCells acc ++ [.int .u8 (c.toNat : Int)] = Lib.byteCells (acc ++ [c]) := by rw [Lib.byteCells_append]; rfl
              clear HO h34 h92 h32 HL
              generalize (acc ++ [c]) = acc2 at *
              generalize (c.toNat : Int) = C at *
              go_wp2_with (first | (go_at_call 100; refine tk.mono ?_; rintro e w3 ⟨rfl, b3, q3⟩; have HB3 := Lib.hid (Jr.grown_trans HG.out b3); have HR3 := Lib.hid q3; have HI3 := Lib.hid (Jr.isF_grown HI.out b3 hgB); have HW3 := Lib.hid (Nat.le_trans HW.out b3.size); clear b3 q3 tk) | (go_at_call 43; refine (Sh.Builder_WriteByte_k B B (Lib.byteCells acc) C _ HI3.out (by rw [Lib.byteCells_length]; have := HN.out; omega) (by have := HW3.out; omega)).mono ?_; rintro e w4 ⟨rfl, i4, b4, _⟩; rw [hcells] at i4; have HI4 : Hid (Lib.IsBuilderF 46 5 B B (Lib.byteCells acc2) w4) := .inr i4; have HB4 := Lib.hid (Jr.grown_more HB3.out b4 hw1); have HR4 := Lib.hid (HR3.out.below b4 hgB); have HW4 := Lib.hid (Nat.le_trans HW3.out b4.size); clear i4 b4))
              go_roundw
              case rel => exact ⟨acc2, r, HO2, HN2, HR4, HI4, HB4, HW4⟩
              case measure => rw [Jr.rem_eq HR4.out]; exact HM.out
  · rw [if_neg hp]
    have wd := Jr.word_no ⟨#[34]⟩ l (Bool.eq_false_iff.2 hp) g T w h
    clear hp h
    go_enter Tryz.func71, Tryz.ntmps71
    go_wp2_with (go_at_call 70; refine wd.mono ?_; rintro e w1 ⟨rfl, b1⟩)
    exact ⟨rfl, rfl, b1⟩
end Go.Proofs.YtboalkfagfgnpaaGreatDoor
/-
  THE WALK of the landed reader: row, over whatever part.
-/
namespace Go.Proofs.YtboalkfagfgnpaaGreatDoor
open Go.RowKit
abbrev Jr.St := List ByteArray × List Vt
def Jr.ROut (o : Option (Jr.St × List UInt8)) (I : Jr.St → World → Prop) (w0 : World) (g : Nat) (T : ByteArray) (e : Ending) (w' : World) : Prop :=
  match o with
  | none => e = .panicked Jr.fault ∧ w0.grownBy w' (some g)
  | some (s, r) => e = .returned (.tuple #[]) ∧ I s w' ∧ Jr.Rd w' g T r
theorem Jr.run_to (w : World) (o c : UInt8) :
    (Instr.slice 9 (.string ⟨#[o, c]⟩) none (some (.int .i64 1)) none).run Tryz.prog w = .ok (.string ⟨#[o]⟩) w := by
  simp [Instr.slice, run_underlying Tryz.underlying9, Instr.sliceBounds]
  rfl
theorem Jr.is_skip {c : UInt8} (hc : c ≠ 0) (l : List UInt8) : Js.is c l = if (Js.ws l).headD 0 = c then some (Js.ws l).tail else none := by
  unfold Js.is
  cases Js.ws l with
  | nil => rw [if_neg (fun q => hc q.symm)]
  | cons d r => rfl
theorem Jr.is_pre (c : UInt8) (l : List UInt8) : Js.is c l = if Pl.pre [c] (Js.ws l) = true then some ((Js.ws l).drop 1) else none := by
  unfold Js.is
  cases Js.ws l with
  | nil => rfl
  | cons d r =>
    simp only
    by_cases h : d = c
    · subst h
      rw [if_pos rfl, if_pos (by rw [Pl.pre_cons, Pl.pre_nil]; simp)]
      rfl
    · rw [if_neg h, if_neg (by rw [Pl.pre_cons, Pl.pre_nil]; simpa using fun q => h q.symm)]
set_option maxRecDepth 100000 in
set_option maxHeartbeats 4000000 in
theorem Jr.row (F : FuncId) (caps : Array Value) (hF : ∀ u, (callFunc F caps).run Tryz.prog u = .ok (.enter F caps) u) (o c : UInt8) (hc : c ≠ 0) (P : Jr.St → List UInt8 → Option (Jr.St × List UInt8)) (I : Jr.St → World → Prop) (w0 : World) (g : Nat) (T : ByteArray)
    (hP0 : ∀ s, P s [] = none) (hP : ∀ s l s2 r, P s l = some (s2, r) → r.length ≤ l.length) (hIk : ∀ s u, I s u → w0.grownBy u (some g)) (hIg : ∀ s u u', I s u → u.grownBy u' (some g) → I s u')
    (hPn : ∀ s l s2 r, P s l = some (s2, r) → s2.2.length = s.2.length + 1) (hpart : ∀ s l u, s.2.length ≤ 65536 → Jr.Rd u g T l → I s u → Calls Tryz.prog F caps u (Jr.ROut (P s l) I w0 g T))
    (s : Jr.St) (hs : s.2 = []) (r : List UInt8) (w : World) (h : Jr.Rd w g T (o :: r)) (hI : I s w) :
    Calls Tryz.prog 102 #[.pointer (some ⟨g, 0, none⟩), .string ⟨#[o, c]⟩, .func (.func F) #[] caps] w (Jr.ROut (Jr.rowL P c s r) I w0 g T) := by
  have hto := fun u => Jr.run_to u o c
  have hix : ∀ hh, (⟨#[o, c]⟩ : ByteArray)[1]'hh = c := fun _ => rfl
  have wd := Jr.word ⟨#[o]⟩ (o :: r) (by show Pl.pre [o] (o :: r) = true; rw [Pl.pre_cons, Pl.pre_nil]; simp) g T w h
  rw [show (⟨#[o]⟩ : ByteArray).size = 1 from rfl, List.drop_succ_cons, List.drop_zero] at wd
  have bl := fun u q => Jr.blanks r g T u q
  have sk := fun u q => Jr.skip c hc (Js.ws r) g T u q
  have HP := Lib.hid hP
  have HP0 := Lib.hid hP0
  have HPN := Lib.hid hPn
  have HSN : Hid (s.2.length + r.length ≤ 65536) := by
    have := h.len
    unfold Hid
    rw [hs]
    simp only [List.length_cons, List.length_nil] at this ⊢
    omega
  have HIK := Lib.hid hIk
  have HIG := Lib.hid hIg
  have HPT := Lib.hid hpart
  have HI := Lib.hid hI
  obtain ⟨O, hO⟩ : ∃ O, Jr.rowL P c s r = O := ⟨_, rfl⟩
  rw [hO]
  unfold Jr.rowL at hO
  rw [Jr.is_skip hc] at hO
  clear h hP hP0 hPn hs hIk hIg hpart hI
  by_cases h0 : (Js.ws r).headD 0 = c
  · rw [if_pos h0] at hO
    have hO : some (s, (Js.ws r).tail) = O := hO
    subst hO
    rw [decide_eq_true h0, if_pos h0] at sk
    clear h0 HPT HP HP0 HPN HSN
    go_enter Tryz.func102, Tryz.ntmps102
    go_wp2_with (first | (go_at_call 70; refine wd.mono ?_; rintro e w1 ⟨rfl, b1, q1⟩; have HI1 := Lib.hid (HIG.out _ _ _ HI.out b1); replace bl := bl _ q1; clear b1 q1 wd) | (go_at_call 50; refine bl.mono ?_; rintro e w2 ⟨rfl, b2, q2⟩; have HI2 := Lib.hid (HIG.out _ _ _ HI1.out b2); replace sk := sk _ q2; clear b2 q2 bl) | (go_at_call 75; refine sk.mono ?_; rintro e w3 ⟨rfl, b3, q3⟩; have HI3 := Lib.hid (HIG.out _ _ _ HI2.out b3); have HR3 := Lib.hid q3; clear b3 q3 sk))
    first | go_end0 | refine bodyPost_ret (results_none rfl _ _ _) rfl ?_
    exact ⟨rfl, HI3.out, HR3.out⟩
  · rw [if_neg h0] at hO
    have hO : Jr.rowF P c r.length s (Js.ws r) = O := hO
    have HO := Lib.hid hO
    rw [decide_eq_false h0, if_neg h0] at sk
    have HLN : Hid ((Js.ws r).length ≤ r.length) := Js.ws_len r
    clear h0 hO
    go_enter Tryz.func102, Tryz.ntmps102
    go_wp2_with (first | (go_at_call 70; refine wd.mono ?_; rintro e w1 ⟨rfl, b1, q1⟩; have HI1 := Lib.hid (HIG.out _ _ _ HI.out b1); replace bl := bl _ q1; clear b1 q1 wd) | (go_at_call 50; refine bl.mono ?_; rintro e w2 ⟨rfl, b2, q2⟩; have HI2 := Lib.hid (HIG.out _ _ _ HI1.out b2); replace sk := sk _ q2; clear b2 q2 bl) | (go_at_call 75; refine sk.mono ?_; rintro e w3 ⟨rfl, b3, q3⟩; have HI3 := Lib.hid (HIG.out _ _ _ HI2.out b3); have HR3 := Lib.hid q3; clear b3 q3 sk))
    clear HI HI1 HI2
    go_loopw [] (fun wr => ∃ (f : Nat) (s' : Jr.St) (l' : List UInt8), Hid (Jr.rowF P c f s' l' = O) ∧ Hid (l'.length ≤ f) ∧ Hid (s'.2.length + f ≤ 65536) ∧ Hid (Jr.Rd wr g T l') ∧ Hid (I s' wr)) (fun wr => Jr.rem g T wr)
    case atStart => exact ⟨r.length, s, Js.ws r, HO, HLN, HSN, HR3, HI3⟩
    case round =>
      clear HO HLN HR3 HI3 HSN
      obtain ⟨f, s', l', HO, HF, HSN, HR, HI⟩ := hrel
      have HL := Lib.hid (Jr.rem_eq HR.out)
      have pt := HPT.out s' l' wr (by have := HSN.out; omega) HR.out HI.out
      cases f with
      | zero =>
        have e : none = O := HO.out
        subst e
        have hnil : l' = [] := List.length_eq_zero_iff.1 (Nat.le_zero.1 HF.out)
        rw [hnil] at pt
        rw [HP0.out] at pt
        clear HO hnil
        go_wp2_with fail
        refine pt.mono ?_
        rintro e w4 ⟨rfl, b4⟩
        exact ⟨rfl, rfl, b4⟩
      | succ f =>
        rw [Jr.rowF] at HO
        cases hps : P s' l' with
        | none =>
          rw [hps] at pt HO
          have e : none = O := HO.out
          subst e
          clear HO hps
          go_wp2_with fail
          refine pt.mono ?_
          rintro e w4 ⟨rfl, b4⟩
          exact ⟨rfl, rfl, b4⟩
        | some p =>
          obtain ⟨s2, r2⟩ := p
          have HPL := Lib.hid (HP.out _ _ _ _ hps)
          have HPM := Lib.hid (HPN.out _ _ _ _ hps)
          rw [hps] at pt HO
          replace HO : Hid ((match Js.is c r2 with | some r3 => some (s2, r3) | none => match Js.is 44 r2 with | none => none | some r3 => Jr.rowF P c f s2 r3) = O) := HO
          have bl := fun u q => Jr.blanks r2 g T u q
          have sk := fun u q => Jr.skip c hc (Js.ws r2) g T u q
          clear hps
          by_cases h1 : (Js.ws r2).headD 0 = c
          · rw [Jr.is_skip hc, if_pos h1] at HO
            have e : some (s2, (Js.ws r2).tail) = O := HO.out
            subst e
            rw [decide_eq_true h1, if_pos h1] at sk
            clear HO h1
            go_wp2_with fail
            refine pt.mono ?_
            rintro e w4 ⟨rfl, i4, q4⟩
            have HI4 := Lib.hid i4
            replace bl := bl _ q4
            clear i4 q4 pt
            go_wp2_with (first | (go_at_call 50; refine bl.mono ?_; rintro e w5 ⟨rfl, b5, q5⟩; have HI5 := Lib.hid (HIG.out _ _ _ HI4.out b5); replace sk := sk _ q5; clear b5 q5 bl) | (go_at_call 75; refine sk.mono ?_; rintro e w6 ⟨rfl, b6, q6⟩; have HI6 := Lib.hid (HIG.out _ _ _ HI5.out b6); have HR6 := Lib.hid q6; clear b6 q6 sk))
            first | go_end0 | refine bodyPost_ret (results_none rfl _ _ _) rfl ?_
            exact ⟨rfl, HI6.out, HR6.out⟩
          · rw [Jr.is_skip hc, if_neg h1, Jr.is_pre] at HO
            rw [decide_eq_false h1, if_neg h1] at sk
            clear h1
            by_cases h2 : Pl.pre [44] (Js.ws r2) = true
            · rw [if_pos h2] at HO
              have wd := fun u q => Jr.word ⟨#[44]⟩ (Js.ws r2) h2 g T u q
              rw [show (⟨#[44]⟩ : ByteArray).size = 1 from rfl] at wd
              have HLL : Hid (((Js.ws r2).drop 1).length < l'.length) := by
                have h3 := HPL.out
                have h4 := Js.ws_len r2
                obtain ⟨t, e⟩ := (Pl.pre_iff _ _).1 h2
                unfold Hid
                rw [e] at h4 ⊢
                simp only [List.cons_append, List.nil_append, List.length_cons, List.drop_succ_cons, List.drop_zero] at h4 ⊢
                omega
              have HO2 : Hid (Jr.rowF P c f s2 ((Js.ws r2).drop 1) = O) := HO
              clear h2 HO
              go_wp2_with fail
              refine pt.mono ?_
              rintro e w4 ⟨rfl, i4, q4⟩
              have HI4 := Lib.hid i4
              replace bl := bl _ q4
              clear i4 q4 pt
              go_wp2_with (first | (go_at_call 50; refine bl.mono ?_; rintro e w5 ⟨rfl, b5, q5⟩; have HI5 := Lib.hid (HIG.out _ _ _ HI4.out b5); replace sk := sk _ q5; clear b5 q5 bl) | (go_at_call 75; refine sk.mono ?_; rintro e w6 ⟨rfl, b6, q6⟩; have HI6 := Lib.hid (HIG.out _ _ _ HI5.out b6); replace wd := wd _ q6; clear b6 q6 sk) | (go_at_call 70; refine wd.mono ?_; rintro e w7 ⟨rfl, b7, q7⟩; have HI7 := Lib.hid (HIG.out _ _ _ HI6.out b7); have HR7 := Lib.hid q7; clear b7 q7 wd))
              go_roundw
              case rel => exact ⟨f, s2, _, HO2, by have h1 := HLL.out; have h2 := HF.out; unfold Hid; omega, by have h1 := HPM.out; have h2 := HSN.out; unfold Hid; omega, HR7, HI7⟩
              case measure => rw [Jr.rem_eq HR7.out, HL.out]; exact HLL.out
            · rw [if_neg h2] at HO
              have e : none = O := HO.out
              subst e
              have wd := fun u q => Jr.word_no ⟨#[44]⟩ (Js.ws r2) (Bool.eq_false_iff.2 h2) g T u q
              clear h2 HO
              go_wp2_with fail
              refine pt.mono ?_
              rintro e w4 ⟨rfl, i4, q4⟩
              have HI4 := Lib.hid i4
              replace bl := bl _ q4
              clear i4 q4 pt
              go_wp2_with (first | (go_at_call 50; refine bl.mono ?_; rintro e w5 ⟨rfl, b5, q5⟩; have HI5 := Lib.hid (HIG.out _ _ _ HI4.out b5); replace sk := sk _ q5; clear b5 q5 bl) | (go_at_call 75; refine sk.mono ?_; rintro e w6 ⟨rfl, b6, q6⟩; have HI6 := Lib.hid (HIG.out _ _ _ HI5.out b6); replace wd := wd _ q6; clear b6 q6 sk) | (go_at_call 70; refine wd.mono ?_; rintro e w7 ⟨rfl, b7⟩; have HK7 := Lib.hid (Jr.grown_trans (HIK.out _ _ HI6.out) b7); clear b7 wd))
              exact ⟨rfl, rfl, HK7.out⟩
end Go.Proofs.YtboalkfagfgnpaaGreatDoor

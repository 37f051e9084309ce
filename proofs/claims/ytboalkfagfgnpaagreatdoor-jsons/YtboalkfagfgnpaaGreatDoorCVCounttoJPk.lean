/-
  THE WALKS of the reference's count and ValueMay.
-/
import Derived.Test.YtboalkfagfgnpaaGreatDoorCVShapetoVShape3
import Derived.Test.YtboalkfagfgnpaaGreatDoorCVAwaketoVCopyT
import Derived.Test.YtboalkfagfgnpaaGreatDoorCJPi
import Derived.Test.YtboalkfagfgnpaaGreatDoorCJMay1toJEp
namespace Go.Proofs.YtboalkfagfgnpaaGreatDoor
open Go.RowKit

theorem Vt.sum_stop {f : Nat → Int} {i : Nat} (h : 1024 < Vt.sum f i) : ∀ n, i ≤ n → Vt.sum f n = Vt.sum f i := by
  intro n hn
  induction n with
  | zero => rw [Nat.le_zero.1 hn]
  | succ n ih =>
    by_cases e : i = n + 1
    · rw [e]
    · have := ih (by omega)
      rw [Vt.sum, this, if_neg (by omega)]

set_option maxRecDepth 100000 in
set_option maxHeartbeats 4000000 in
theorem Rv.count : ∀ (t : Vt) (v : Value) (deep : Int) (w : World), t.Lies w (· < w.heap.size) v → 0 ≤ deep → deep ≤ 8 →
    Calls Tryz.prog 44 #[v, .int .i64 deep] w fun e w' => e = .returned (.int .i64 (t.count deep)) ∧ Below w.heap.size w w' := by
  intro t
  induction t with
  | nil => intro v deep w h; exact h.elim
  | mk k x b s n it m ks ih =>
    rintro v deep w h hd0 hd1
    have H := Lib.hid h
    obtain ⟨ai, c, ak, d, rfl, hb, hn, hc, hk, hi⟩ := h
    have HI : Hid (∀ i : Nat, ∀ (v : Value) (deep : Int) (w : World), (it i).Lies w (· < w.heap.size) v → 0 ≤ deep → deep ≤ 8 →
      Calls Tryz.prog 44 #[v, .int .i64 deep] w fun e w' => e = .returned (.int .i64 ((it i).count deep)) ∧ Below w.heap.size w w') := ih
    have HC := Lib.hid hi
    have HK := Lib.hid hk
    have HN : Hid ((Vt.mk k x b s n it m ks).count deep = if deep < 1 ∨ Vt.formed k x b s n m ks = false then 1025 else min (Vt.sum (fun i => (it i).count (deep - 1)) n) 1025) := by
      unfold Hid; rw [Vt.count]
    have HR : Hid (∀ i, 1 ≤ Vt.sum (fun i => (it i).count (deep - 1)) i ∧ Vt.sum (fun i => (it i).count (deep - 1)) i ≤ 2049) := Vt.sum_range (fun i => Vt.count_range (it i) _)
    have HG : Hid (∀ i, 1 ≤ (it i).count (deep - 1) ∧ (it i).count (deep - 1) ≤ 1025) := fun i => Vt.count_range (it i) _
    clear ih hi hk
    generalize hZ : (Vt.mk k x b s n it m ks).count deep = Z at *
    clear hZ
    by_cases g1 : deep < 1
    · have g1' : decide (deep < 1) = true := decide_eq_true g1
      have HZ : Hid (Z = 1025) := by have := HN.out; rw [if_pos (.inl g1)] at this; exact this
      clear HN HI HR HG HC
      go_enter Tryz.func44, Tryz.ntmps44
      go_wp2
      go_ret
      rw [HZ.out]
      exact ⟨rfl, (Below.refl _ _).alloc (Nat.le_refl _) _⟩
    have g1' : decide (deep < 1) = false := decide_eq_false g1
    go_enter Tryz.func44, Tryz.ntmps44
    go_wp2_with fail
    refine (Rv.shape k x b s ai n c m ks ak d (fun g => g < w.heap.size) _ (fun g hg => by simp; omega) (HK.out.on fun g hg => ⟨hg, Below.heap_alloc _ _ _ hg⟩)).mono ?_
    rintro e w1 ⟨rfl, hw⟩
    have BX := Vm.box hw
    have hb1 := Vm.behind hw
    clear hw
    generalize hF : Vt.formed k x b s n m ks = F at *
    clear hF
    cases F with
    | false =>
      have HZ : Hid (Z = 1025) := by have := HN.out; rw [if_pos (.inr rfl)] at this; exact this
      clear HN HI HR HG HC BX
      go_wp2
      go_ret
      rw [HZ.out]
      exact ⟨rfl, hb1⟩
    | true =>
      have HZ : Hid (Z = min (Vt.sum (fun i => (it i).count (deep - 1)) n) 1025) := by have := HN.out; rw [if_neg (by rintro (h | h); omega; cases h)] at this; exact this
      clear HN
      have hnm : n ≤ 9223372036854775807 := by unfold maxLen at hc; omega
      have hgl : w.heap.size < w1.heap.size := BX.lt
      have HBX := Lib.hid BX
      clear BX
      go_wp2
      go_loopw [5, 6] (fun kk ix wr => ∃ i : Nat, i ≤ n ∧ ix = .int .i64 (i : Int) ∧ kk = .int .i64 (Vt.sum (fun i => (it i).count (deep - 1)) i) ∧ Below w1.heap.size w1 wr) (fun _ ix _ => n - (intOf ix).toNat)
      case atStart => exact ⟨0, Nat.zero_le _, by go_num, by simp [Vt.sum], Below.refl _ _⟩
      case round =>
        obtain ⟨i, hin, rfl, rfl, hbr⟩ := hrel
        have hrg := HR.out i
        obtain ⟨c0, c1, c2, c3, c4, c5⟩ := (HBX.out.on hgl hbr).cells
        clear c0 c1 c2 c3 c5
        by_cases hlt : i < n
        · have d1 : decide ((i : Int) < (n : Int)) = true := decide_eq_true (by omega)
          by_cases hs : Vt.sum (fun i => (it i).count (deep - 1)) i ≤ 1024
          · have hs' : decide (Vt.sum (fun i => (it i).count (deep - 1)) i ≤ 1024) = true := decide_eq_true hs
            have HU : Hid (Vt.sum (fun i => (it i).count (deep - 1)) (i + 1) = Vt.sum (fun i => (it i).count (deep - 1)) i + (it i).count (deep - 1)) := by
              unfold Hid
              rw [Vt.sum, if_pos hs]
            have hgg := HG.out i
            obtain ⟨bi, oi, v0, v1, v2, v3, v4, v5, rfl, hbi, z0, z1, z2, z3, z4, z5, hli⟩ := HC.out i hlt
            have hic : i < c := Nat.lt_of_lt_of_le hlt hn
            have hbl : wr.heap[bi]? = w.heap[bi]? := (hbr.block bi (by have := hb1.size; omega)).trans (hb1.block bi hbi)
            replace z0 := Vt.cell_on hbl z0
            replace z1 := Vt.cell_on hbl z1
            replace z2 := Vt.cell_on hbl z2
            replace z3 := Vt.cell_on hbl z3
            replace z4 := Vt.cell_on hbl z4
            replace z5 := Vt.cell_on hbl z5
            obtain ⟨k', x', b', s', ai', n', c', ak', m', d', rfl, rfl, rfl, rfl, rfl, rfl⟩ := hli.cells
            have HLI := Lib.hid (hli.on' (Vm.then hb1 hbr))
            clear hbl hli
            generalize hQ : (it i).count (deep - 1) = Q at *
            have HQ := Lib.hid hQ
            clear hQ
            generalize Vt.sum (fun i => (it i).count (deep - 1)) i = S at *
            go_wp2_with fail
            refine (HI.out i _ (deep - 1) _ HLI.out (by omega) (by omega)).mono ?_
            rintro e w2 ⟨rfl, hb2⟩
            rw [HQ.out]
            have hbs := Vm.then hbr hb2
            clear hb2 hbr
            go_wp2
            refine ⟨⟨i + 1, hlt, by go_num, by rw [HU.out], hbs⟩, ?_⟩
            simp [intOf]
            omega
          · have hs' : decide (Vt.sum (fun i => (it i).count (deep - 1)) i ≤ 1024) = false := decide_eq_false hs
            have HE : Hid (Z = 1025) := by
              have := HZ.out
              rw [Vt.sum_stop (by omega) n hin] at this
              unfold Hid
              omega
            generalize Vt.sum (fun i => (it i).count (deep - 1)) i = S at *
            have hmin : min S 1025 = (if S ≤ 1025 then S else 1025) := by omega
            go_wp2
            all_goals go_ret
            all_goals refine ⟨?_, Vm.then hb1 hbr⟩
            all_goals have hz := HE.out
            all_goals simp
            all_goals omega
        · have e : i = n := by omega
          subst e
          have d1 : decide ((i : Int) < (i : Int)) = false := decide_eq_false (by omega)
          generalize Vt.sum (fun i => (it i).count (deep - 1)) i = S at *
          go_wp2
          all_goals go_ret
          all_goals refine ⟨?_, Vm.then hb1 hbr⟩
          all_goals have hz := HZ.out
          all_goals simp
          all_goals omega

set_option maxRecDepth 100000 in
theorem Rv.may (t : Vt) (v : Value) (w : World) (h : t.Lies w (· < w.heap.size) v) : Calls Tryz.prog 19 #[v] w fun e w' => e = .returned (.bool t.may) ∧ Below w.heap.size w w' := by
  obtain ⟨k, x, b, s, ai, n, c, ak, m, d, rfl⟩ := h.form
  have H := Lib.hid h
  clear h
  have HM : Hid (decide (t.count 8 ≤ 1024) = t.may) := (Vt.may_count t).symm
  go_enter Tryz.func19, Tryz.ntmps19
  go_wp2_with fail
  refine (Rv.count t _ 8 _ (H.out.alloc _) (by decide) (by decide)).mono ?_
  rintro e w1 ⟨rfl, hw⟩
  have hb1 := Vm.behind hw
  clear hw H
  generalize t.count 8 = Q at *
  go_wp2
  go_ret
  rw [← HM.out]
  exact ⟨rfl, hb1⟩
end Go.Proofs.YtboalkfagfgnpaaGreatDoor
/-
  THE WALK of stoleref1.GetJson, over value.
-/
namespace Go.Proofs.YtboalkfagfgnpaaGreatDoor
open Go.RowKit
theorem Jp.no {l : List UInt8} (h : Js.get l = none) : Js.gerr l = 1000 ∧ Js.got l = Js.leaf 0 0 0 ⟨#[]⟩ := by
  unfold Js.gerr Js.got
  rw [h]
  exact ⟨rfl, rfl⟩
theorem Jp.yes {l : List UInt8} {t : Vt} (h : Js.get l = some t) : Js.gerr l = 0 ∧ Js.got l = t := by
  unfold Js.gerr Js.got
  rw [h]
  exact ⟨rfl, rfl⟩
theorem Jp.no_end {w W : World} {l : List UInt8} (h : Js.get l = none) (hb : Below w.heap.size w W) :
    ∃ v, Ending.returned (.tuple #[.agg #[.int .i64 0, .int .i64 0, .int .u64 0, .string ⟨#[]⟩, .slice none 0 0, .slice none 0 0], .int .i64 1000]) = .returned (.tuple #[v, .int .i64 (Js.gerr l)]) ∧ (Js.got l).Lies W (fun g => w.heap.size ≤ g ∧ g < W.heap.size) v ∧ Below w.heap.size w W := by
  obtain ⟨e1, e2⟩ := Jp.no h
  rw [e1, e2]
  exact ⟨_, rfl, Jr.leaf_lies _ _ 0 0 0 ⟨#[]⟩ (by decide), hb⟩
/-- what is grown but for a block that is new -/
theorem Jp.below_of {w u u' : World} {g : Nat} (h : Below w.heap.size w u) (hb : u.grownBy u' (some g)) (hg : w.heap.size ≤ g) : Below w.heap.size w u' :=
  ⟨hb.os.trans h.os, hb.tape.trans h.tape, hb.output.trans h.output, Nat.le_trans h.size hb.size, fun i hi => (hb.block i (Nat.lt_of_lt_of_le hi h.size) (fun q => by injection q with q; omega)).trans (h.block i hi)⟩
set_option maxRecDepth 100000 in
set_option maxHeartbeats 4000000 in
theorem Jp.get (s : ByteArray) (w : World) (hV : ∀ (g : Nat) (T : ByteArray) (l : List UInt8) (u : World), Jp.Rd u g T l false → Calls Tryz.prog 23 #[.pointer (some ⟨g, 0, none⟩), .int .i64 8] u (Jp.VOut (Js.value 8 l) u g T)) :
    Calls Tryz.prog 9 #[.string s] w fun e w' => ∃ v, e = .returned (.tuple #[v, .int .i64 (Js.gerr s.data.toList)]) ∧ (Js.got s.data.toList).Lies w' (fun g => w.heap.size ≤ g ∧ g < w'.heap.size) v ∧ Below w.heap.size w w' := by
  have HZ : Hid (Vm.Box ((w.alloc (.cells #[.int .i64 0, .int .i64 0, .int .u64 0, .string ⟨#[]⟩, .slice none 0 0, .slice none 0 0] 26)).alloc (.cells #[.string s, .int .i64 0, .bool false] 54)) w.heap.size (.int .i64 0) (.int .i64 0) (.int .u64 0) (.string ⟨#[]⟩) (.slice none 0 0) (.slice none 0 0)) := ⟨(Vm.Has.new w _ _ rfl).alloc _⟩
  have HR : Hid (Bs.Box ((w.alloc (.cells #[.int .i64 0, .int .i64 0, .int .u64 0, .string ⟨#[]⟩, .slice none 0 0, .slice none 0 0] 26)).alloc (.cells #[.string s, .int .i64 0, .bool false] 54)) (w.heap.size + 1) #[.string s, .int .i64 0, .bool false] 54) := Bs.Box.new _ _ _ _ (by simp)
  have HB : Hid (Below w.heap.size w ((w.alloc (.cells #[.int .i64 0, .int .i64 0, .int .u64 0, .string ⟨#[]⟩, .slice none 0 0, .slice none 0 0] 26)).alloc (.cells #[.string s, .int .i64 0, .bool false] 54))) := ((Below.refl _ _).alloc (Nat.le_refl _) _).alloc (by simp) _
  have hS2 : ((w.alloc (.cells #[.int .i64 0, .int .i64 0, .int .u64 0, .string ⟨#[]⟩, .slice none 0 0, .slice none 0 0] 26)).alloc (.cells #[.string s, .int .i64 0, .bool false] 54)).heap.size = w.heap.size + 2 := by simp
  generalize hW2 : (w.alloc (.cells #[.int .i64 0, .int .i64 0, .int .u64 0, .string ⟨#[]⟩, .slice none 0 0, .slice none 0 0] 26)).alloc (.cells #[.string s, .int .i64 0, .bool false] 54) = W2 at *
  have HW2 := Lib.hid hW2
  clear hW2
  obtain ⟨y0, y1, y2, y3, y4, y5⟩ := HZ.out.cells
  have z0 := HZ.out.has.frozen 0
  have z1 := HZ.out.has.frozen 1
  have z2 := HZ.out.has.frozen 2
  have z3 := HZ.out.has.frozen 3
  have z4 := HZ.out.has.frozen 4
  have z5 := HZ.out.has.frozen 5
  by_cases hlong : 65536 < s.size
  · have HG : Hid (Js.get s.data.toList = none) := by unfold Hid Js.get; rw [if_pos (by rw [Wk.len_data]; exact hlong)]
    have d1 : decide ((65536 : Int) < (s.size : Int)) = true := decide_eq_true (by omega)
    clear hV hlong
    go_enter Tryz.func9, Tryz.ntmps9
    go_wp2_with fail
    rw [HW2.out]
    refine bodyPost_ret (v := .tuple #[.agg #[.int .i64 0, .int .i64 0, .int .u64 0, .string ⟨#[]⟩, .slice none 0 0, .slice none 0 0], .int .i64 1000]) (by simp [results, Tryz.results9, go_sem, y0, y1, y2, y3, y4, y5]) rfl ?_
    exact Jp.no_end HG.out HB.out
  · have d1 : decide ((65536 : Int) < (s.size : Int)) = false := decide_eq_false (by omega)
    have hRd : Jp.Rd W2 (w.heap.size + 1) s s.data.toList false := ⟨0, Nat.zero_le _, rfl, by omega, HR.out⟩
    have va := hV (w.heap.size + 1) s s.data.toList W2 hRd
    have HGT : Hid (Js.get s.data.toList = match Js.value 8 s.data.toList with | none => none | some (t, r) => if Js.ws r = [] ∧ t.may = true then some t else none) := by
      unfold Hid Js.get
      rw [if_neg (by rw [Wk.len_data]; exact hlong)]
      cases Js.value 8 s.data.toList <;> rfl
    clear hV hlong hRd y0 y1 y2 y3 y4 y5 z0 z1 z2 z3 z4 z5
    generalize Js.value 8 s.data.toList = O at *
    go_enter Tryz.func9, Tryz.ntmps9
    go_wp2_with fail
    rw [HW2.out]
    go_wp2_with fail
    refine va.mono ?_
    rintro e w3 ⟨b3, k3, x3, Y3, s3, ai3, n3, c3, ak3, m3, d3, rfl, M3⟩
    have hs3 : w.heap.size + 2 ≤ w3.heap.size := hS2 ▸ b3.size
    have HB3 := Lib.hid (Jp.below_of HB.out b3 (by omega))
    have HZ3 : Hid (Vm.Box w3 w.heap.size (.int .i64 0) (.int .i64 0) (.int .u64 0) (.string ⟨#[]⟩) (.slice none 0 0) (.slice none 0 0)) := Jr.box_grown HZ.out b3 (by omega)
    have HV3 : Hid (Vm.Box (w3.alloc (.cells #[.int .i64 k3, .int .i64 x3, .int .u64 (Y3 : Int), .string s3, .slice ai3 n3 c3, .slice ak3 m3 d3] 26)) w3.heap.size (.int .i64 k3) (.int .i64 x3) (.int .u64 (Y3 : Int)) (.string s3) (.slice ai3 n3 c3) (.slice ak3 m3 d3)) := ⟨Vm.Has.new w3 _ _ rfl⟩
    have HZ4 := Lib.hid (HZ3.out.alloc HZ3.out.lt (.cells #[.int .i64 k3, .int .i64 x3, .int .u64 (Y3 : Int), .string s3, .slice ai3 n3 c3, .slice ak3 m3 d3] 26))
    have HB4 := Lib.hid (HB3.out.alloc HB3.out.size (.cells #[.int .i64 k3, .int .i64 x3, .int .u64 (Y3 : Int), .string s3, .slice ai3 n3 c3, .slice ak3 m3 d3] 26))
    clear b3 va HZ HR HB HW2
    rcases M3 with ⟨t, r, rfl, hR3, hl3⟩ | ⟨hno, r, hR3⟩
    · have bl := Jp.blanks r false (w.heap.size + 1) s (w3.alloc (.cells #[.int .i64 k3, .int .i64 x3, .int .u64 (Y3 : Int), .string s3, .slice ai3 n3 c3, .slice ak3 m3 d3] 26)) (hR3.on (Jp.grown_alloc _ _ _))
      have HL3 := Lib.hid hl3
      have mv := fun u q => Rv.may t (.agg #[.int .i64 k3, .int .i64 x3, .int .u64 (Y3 : Int), .string s3, .slice ai3 n3 c3, .slice ak3 m3 d3]) u q
      simp only at HGT
      clear hR3 hl3
      by_cases hws : Js.ws r = []
      · rw [hws] at bl
        by_cases hm : t.may = true
        · rw [if_pos ⟨hws, hm⟩] at HGT
          rw [hm] at mv
          clear hws hm
          go_wp2_with fail
          refine bl.mono ?_
          rintro e w5 ⟨rfl, b5, q5⟩
          have HZ5 : Hid (Vm.Box w5 w.heap.size (.int .i64 0) (.int .i64 0) (.int .u64 0) (.string ⟨#[]⟩) (.slice none 0 0) (.slice none 0 0)) := Jr.box_grown HZ4.out b5 (by omega)
          have HV5 : Hid (Vm.Box w5 w3.heap.size (.int .i64 k3) (.int .i64 x3) (.int .u64 (Y3 : Int)) (.string s3) (.slice ai3 n3 c3) (.slice ak3 m3 d3)) := Jr.box_grown HV3.out b5 (by omega)
          have HB5 := Lib.hid (Jp.below_of HB4.out b5 (by omega))
          have HL5 : Hid (t.Lies w5 (fun q => w.heap.size + 2 ≤ q ∧ q < w5.heap.size) (.agg #[.int .i64 k3, .int .i64 x3, .int .u64 (Y3 : Int), .string s3, .slice ai3 n3 c3, .slice ak3 m3 d3])) := HL3.out.on (fun q hq => ⟨⟨by have := hq.1; omega, by have h7 := hq.2; have h8 := b5.size; simp at h8; omega⟩, (b5.block q (by have := hq.2; simp; omega) (fun e => by injection e with e; have := hq.1; omega)).trans (Below.heap_alloc _ _ _ hq.2)⟩)
          obtain ⟨i, h1, h2, h3, hB⟩ := q5
          have c1 : w5.cell? ⟨w.heap.size + 1, 1, none⟩ = some (.int .i64 (i : Int)) := hB.cell 1 rfl
          have c2 : w5.cell? ⟨w.heap.size + 1, 2, none⟩ = some (.bool false) := hB.cell 2 rfl
          obtain ⟨y0, y1, y2, y3, y4, y5⟩ := HZ5.out.cells
          have z0 := HZ5.out.has.frozen 0
          have z1 := HZ5.out.has.frozen 1
          have z2 := HZ5.out.has.frozen 2
          have z3 := HZ5.out.has.frozen 3
          have z4 := HZ5.out.has.frozen 4
          have z5 := HZ5.out.has.frozen 5
          obtain ⟨u0, u1, u2, u3, u4, u5⟩ := HV5.out.cells
          clear hB b5 bl
          have e := Jr.at_end h1 h2
          have d2 : ((i : Int) != (s.size : Int)) = false := by rw [e]; simp
          clear h2 e
          go_wp2_with (first  | (go_at_call 19; refine (mv _ (HL5.out.on (fun q hq => ⟨hq.2, rfl⟩))).mono ?_; rintro e w6 ⟨rfl, b6⟩; have HZ6 : Hid (Vm.Box w6 w.heap.size (.int .i64 0) (.int .i64 0) (.int .u64 0) (.string ⟨#[]⟩) (.slice none 0 0) (.slice none 0 0)) := ⟨(b6.block _ HZ5.out.lt).trans HZ5.out.all⟩; have HV6 : Hid (Vm.Box w6 w3.heap.size (.int .i64 k3) (.int .i64 x3) (.int .u64 (Y3 : Int)) (.string s3) (.slice ai3 n3 c3) (.slice ak3 m3 d3)) := ⟨(b6.block _ HV5.out.lt).trans HV5.out.all⟩; have HB6 := Lib.hid (Wk.below_step HB5.out b6); have HL6 : Hid (t.Lies w6 (fun q => w.heap.size + 2 ≤ q ∧ q < w6.heap.size) (.agg #[.int .i64 k3, .int .i64 x3, .int .u64 (Y3 : Int), .string s3, .slice ai3 n3 c3, .slice ak3 m3 d3])) := HL5.out.on (fun q hq => ⟨⟨hq.1, Nat.lt_of_lt_of_le hq.2 b6.size⟩, b6.block q hq.2⟩); obtain ⟨y0, y1, y2, y3, y4, y5⟩ := HZ6.out.cells; have z0 := HZ6.out.has.frozen 0; have z1 := HZ6.out.has.frozen 1; have z2 := HZ6.out.has.frozen 2; have z3 := HZ6.out.has.frozen 3; have z4 := HZ6.out.has.frozen 4; have z5 := HZ6.out.has.frozen 5; obtain ⟨u0, u1, u2, u3, u4, u5⟩ := HV6.out.cells; clear b6 mv))
          obtain ⟨W, hW, hX, hb6⟩ := Jr.six HZ6.out (.int .i64 k3) (.int .i64 x3) (.int .u64 (Y3 : Int)) (.string s3) (.slice ai3 n3 c3) (.slice ak3 m3 d3)
          have hoth : ∀ q, q ≠ w.heap.size → W.heap[q]? = w6.heap[q]? := fun q hq => by rw [← hW]; exact Jr.six_other w6 w.heap.size 0 _ _ _ _ _ _ q hq
          have hsz : W.heap.size = w6.heap.size := by rw [← hW]; simp only [Jr.set_size]
          rw [hW]
          obtain ⟨x0, x1, x2, x3', x4, x5⟩ := hX.cells
          refine bodyPost_ret (v := .tuple #[.agg #[.int .i64 k3, .int .i64 x3, .int .u64 (Y3 : Int), .string s3, .slice ai3 n3 c3, .slice ak3 m3 d3], .int .i64 0]) (by simp [results, Tryz.results9, go_sem, x0, x1, x2, x3', x4, x5]) rfl ?_
          obtain ⟨e1, e2⟩ := Jp.yes HGT.out
          rw [e1, e2]
          exact ⟨_, rfl, HL6.out.on fun q hq => ⟨⟨by have := hq.1; omega, by have := hq.2; omega⟩, hoth q (by have := hq.1; omega)⟩, HB6.out.trans hb6⟩
        · rw [if_neg (fun q => hm q.2)] at HGT
          have HG := HGT
          rw [Bool.eq_false_iff.2 hm] at mv
          clear hws hm HGT
          go_wp2_with fail
          refine bl.mono ?_
          rintro e w5 ⟨rfl, b5, q5⟩
          have HZ5 : Hid (Vm.Box w5 w.heap.size (.int .i64 0) (.int .i64 0) (.int .u64 0) (.string ⟨#[]⟩) (.slice none 0 0) (.slice none 0 0)) := Jr.box_grown HZ4.out b5 (by omega)
          have HV5 : Hid (Vm.Box w5 w3.heap.size (.int .i64 k3) (.int .i64 x3) (.int .u64 (Y3 : Int)) (.string s3) (.slice ai3 n3 c3) (.slice ak3 m3 d3)) := Jr.box_grown HV3.out b5 (by omega)
          have HB5 := Lib.hid (Jp.below_of HB4.out b5 (by omega))
          have HL5 : Hid (t.Lies w5 (fun q => w.heap.size + 2 ≤ q ∧ q < w5.heap.size) (.agg #[.int .i64 k3, .int .i64 x3, .int .u64 (Y3 : Int), .string s3, .slice ai3 n3 c3, .slice ak3 m3 d3])) := HL3.out.on (fun q hq => ⟨⟨by have := hq.1; omega, by have h7 := hq.2; have h8 := b5.size; simp at h8; omega⟩, (b5.block q (by have := hq.2; simp; omega) (fun e => by injection e with e; have := hq.1; omega)).trans (Below.heap_alloc _ _ _ hq.2)⟩)
          obtain ⟨i, h1, h2, h3, hB⟩ := q5
          have c1 : w5.cell? ⟨w.heap.size + 1, 1, none⟩ = some (.int .i64 (i : Int)) := hB.cell 1 rfl
          have c2 : w5.cell? ⟨w.heap.size + 1, 2, none⟩ = some (.bool false) := hB.cell 2 rfl
          obtain ⟨y0, y1, y2, y3, y4, y5⟩ := HZ5.out.cells
          have z0 := HZ5.out.has.frozen 0
          have z1 := HZ5.out.has.frozen 1
          have z2 := HZ5.out.has.frozen 2
          have z3 := HZ5.out.has.frozen 3
          have z4 := HZ5.out.has.frozen 4
          have z5 := HZ5.out.has.frozen 5
          obtain ⟨u0, u1, u2, u3, u4, u5⟩ := HV5.out.cells
          clear hB b5 bl
          have e := Jr.at_end h1 h2
          have d2 : ((i : Int) != (s.size : Int)) = false := by rw [e]; simp
          clear h2 e
          go_wp2_with (first  | (go_at_call 19; refine (mv _ (HL5.out.on (fun q hq => ⟨hq.2, rfl⟩))).mono ?_; rintro e w6 ⟨rfl, b6⟩; have HZ6 : Hid (Vm.Box w6 w.heap.size (.int .i64 0) (.int .i64 0) (.int .u64 0) (.string ⟨#[]⟩) (.slice none 0 0) (.slice none 0 0)) := ⟨(b6.block _ HZ5.out.lt).trans HZ5.out.all⟩; have HV6 : Hid (Vm.Box w6 w3.heap.size (.int .i64 k3) (.int .i64 x3) (.int .u64 (Y3 : Int)) (.string s3) (.slice ai3 n3 c3) (.slice ak3 m3 d3)) := ⟨(b6.block _ HV5.out.lt).trans HV5.out.all⟩; have HB6 := Lib.hid (Wk.below_step HB5.out b6); have HL6 : Hid (t.Lies w6 (fun q => w.heap.size + 2 ≤ q ∧ q < w6.heap.size) (.agg #[.int .i64 k3, .int .i64 x3, .int .u64 (Y3 : Int), .string s3, .slice ai3 n3 c3, .slice ak3 m3 d3])) := HL5.out.on (fun q hq => ⟨⟨hq.1, Nat.lt_of_lt_of_le hq.2 b6.size⟩, b6.block q hq.2⟩); obtain ⟨y0, y1, y2, y3, y4, y5⟩ := HZ6.out.cells; have z0 := HZ6.out.has.frozen 0; have z1 := HZ6.out.has.frozen 1; have z2 := HZ6.out.has.frozen 2; have z3 := HZ6.out.has.frozen 3; have z4 := HZ6.out.has.frozen 4; have z5 := HZ6.out.has.frozen 5; obtain ⟨u0, u1, u2, u3, u4, u5⟩ := HV6.out.cells; clear b6 mv))
          obtain ⟨W, hW, hX, hb6⟩ := Jr.six HZ6.out (.int .i64 0) (.int .i64 0) (.int .u64 0) (.string ⟨#[]⟩) (.slice none 0 0) (.slice none 0 0)
          rw [hW]
          obtain ⟨x0, x1, x2, x3', x4, x5⟩ := hX.cells
          refine bodyPost_ret (v := .tuple #[.agg #[.int .i64 0, .int .i64 0, .int .u64 0, .string ⟨#[]⟩, .slice none 0 0, .slice none 0 0], .int .i64 1000]) (by simp [results, Tryz.results9, go_sem, x0, x1, x2, x3', x4, x5]) rfl ?_
          exact Jp.no_end HG.out (HB6.out.trans hb6)
      · rw [if_neg (fun q => hws q.1)] at HGT
        have HG := HGT
        have hpos : 0 < (Js.ws r).length := List.length_pos_iff.2 hws
        clear hws HGT mv
        go_wp2_with fail
        refine bl.mono ?_
        rintro e w5 ⟨rfl, b5, q5⟩
        have HZ5 : Hid (Vm.Box w5 w.heap.size (.int .i64 0) (.int .i64 0) (.int .u64 0) (.string ⟨#[]⟩) (.slice none 0 0) (.slice none 0 0)) := Jr.box_grown HZ4.out b5 (by omega)
        have HV5 : Hid (Vm.Box w5 w3.heap.size (.int .i64 k3) (.int .i64 x3) (.int .u64 (Y3 : Int)) (.string s3) (.slice ai3 n3 c3) (.slice ak3 m3 d3)) := Jr.box_grown HV3.out b5 (by omega)
        have HB5 := Lib.hid (Jp.below_of HB4.out b5 (by omega))
        have HL5 : Hid (t.Lies w5 (fun q => w.heap.size + 2 ≤ q ∧ q < w5.heap.size) (.agg #[.int .i64 k3, .int .i64 x3, .int .u64 (Y3 : Int), .string s3, .slice ai3 n3 c3, .slice ak3 m3 d3])) := HL3.out.on (fun q hq => ⟨⟨by have := hq.1; omega, by have h7 := hq.2; have h8 := b5.size; simp at h8; omega⟩, (b5.block q (by have := hq.2; simp; omega) (fun e => by injection e with e; have := hq.1; omega)).trans (Below.heap_alloc _ _ _ hq.2)⟩)
        obtain ⟨i, h1, h2, h3, hB⟩ := q5
        have c1 : w5.cell? ⟨w.heap.size + 1, 1, none⟩ = some (.int .i64 (i : Int)) := hB.cell 1 rfl
        have c2 : w5.cell? ⟨w.heap.size + 1, 2, none⟩ = some (.bool false) := hB.cell 2 rfl
        obtain ⟨y0, y1, y2, y3, y4, y5⟩ := HZ5.out.cells
        have z0 := HZ5.out.has.frozen 0
        have z1 := HZ5.out.has.frozen 1
        have z2 := HZ5.out.has.frozen 2
        have z3 := HZ5.out.has.frozen 3
        have z4 := HZ5.out.has.frozen 4
        have z5 := HZ5.out.has.frozen 5
        obtain ⟨u0, u1, u2, u3, u4, u5⟩ := HV5.out.cells
        clear hB b5 bl
        have d2 : ((i : Int) != (s.size : Int)) = true := by
          rw [bne_iff_ne]
          have := congrArg List.length h2
          rw [List.length_drop, Wk.len_data] at this
          omega
        clear h2 hpos
        go_wp2
        obtain ⟨W, hW, hX, hb6⟩ := Jr.six HZ5.out (.int .i64 0) (.int .i64 0) (.int .u64 0) (.string ⟨#[]⟩) (.slice none 0 0) (.slice none 0 0)
        rw [hW]
        obtain ⟨x0, x1, x2, x3', x4, x5⟩ := hX.cells
        refine bodyPost_ret (v := .tuple #[.agg #[.int .i64 0, .int .i64 0, .int .u64 0, .string ⟨#[]⟩, .slice none 0 0, .slice none 0 0], .int .i64 1000]) (by simp [results, Tryz.results9, go_sem, x0, x1, x2, x3', x4, x5]) rfl ?_
        exact Jp.no_end HG.out (HB5.out.trans hb6)
    · have bl := Jp.blanks r true (w.heap.size + 1) s (w3.alloc (.cells #[.int .i64 k3, .int .i64 x3, .int .u64 (Y3 : Int), .string s3, .slice ai3 n3 c3, .slice ak3 m3 d3] 26)) (hR3.on (Jp.grown_alloc _ _ _))
      have HG : Hid (Js.get s.data.toList = none) := by
        unfold Hid
        rw [HGT.out]
        cases O with
        | none => rfl
        | some q =>
          obtain ⟨t, r'⟩ := q
          have := Js.wide_may (hno t r' rfl)
          simp [this]
      clear HGT hno hR3
      go_wp2_with (go_at_call 24; refine bl.mono ?_; rintro e w5 ⟨rfl, b5, q5⟩; have HZ5 : Hid (Vm.Box w5 w.heap.size (.int .i64 0) (.int .i64 0) (.int .u64 0) (.string ⟨#[]⟩) (.slice none 0 0) (.slice none 0 0)) := Jr.box_grown HZ4.out b5 (by omega); have HV5 : Hid (Vm.Box w5 w3.heap.size (.int .i64 k3) (.int .i64 x3) (.int .u64 (Y3 : Int)) (.string s3) (.slice ai3 n3 c3) (.slice ak3 m3 d3)) := Jr.box_grown HV3.out b5 (by omega); have HB5 := Lib.hid (Jp.below_of HB4.out b5 (by omega)); obtain ⟨i, h1, h2, h3, hB⟩ := q5; have c1 : w5.cell? ⟨w.heap.size + 1, 1, none⟩ = some (.int .i64 (i : Int)) := hB.cell 1 rfl; have c2 : w5.cell? ⟨w.heap.size + 1, 2, none⟩ = some (.bool true) := hB.cell 2 rfl; obtain ⟨y0, y1, y2, y3, y4, y5⟩ := HZ5.out.cells; have z0 := HZ5.out.has.frozen 0; have z1 := HZ5.out.has.frozen 1; have z2 := HZ5.out.has.frozen 2; have z3 := HZ5.out.has.frozen 3; have z4 := HZ5.out.has.frozen 4; have z5 := HZ5.out.has.frozen 5; clear hB b5 bl)
      obtain ⟨W, hW, hX, hb6⟩ := Jr.six HZ5.out (.int .i64 0) (.int .i64 0) (.int .u64 0) (.string ⟨#[]⟩) (.slice none 0 0) (.slice none 0 0)
      rw [hW]
      obtain ⟨x0, x1, x2, x3', x4, x5⟩ := hX.cells
      refine bodyPost_ret (v := .tuple #[.agg #[.int .i64 0, .int .i64 0, .int .u64 0, .string ⟨#[]⟩, .slice none 0 0, .slice none 0 0], .int .i64 1000]) (by simp [results, Tryz.results9, go_sem, x0, x1, x2, x3', x4, x5]) rfl ?_
      exact Jp.no_end HG.out (HB5.out.trans hb6)
end Go.Proofs.YtboalkfagfgnpaaGreatDoor

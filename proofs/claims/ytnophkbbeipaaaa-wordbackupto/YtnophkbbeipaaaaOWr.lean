/-
  THE WALK of stolelaw14.written.
-/
import Derived.Test.YtnophkbbeipaaaaOAw
import Derived.Test.YtnophkbbeipaaaaOGood
import Derived.Test.YtnophkbbeipaaaaGBits
namespace Go.Proofs.Ytnophkbbeipaaaa
open Go.RowKit
theorem Wx.dots_snoc (p : List (List UInt8)) (t : List UInt8) : Wx.dots (p ++ [t]) = Wx.dots p ++ (46 :: t) := by simp [Wx.dots]
theorem Wx.at_get (s : ByteArray) (i : Nat) (h : i < s.size) : s.data.toList[i]? = some s[i] := by
  have := congrArg (fun l : List UInt8 => l[0]?) (Rl.drop s i h)
  simpa using this
theorem Wx.esc_take {s : ByteArray} {i : Nat} (h : i < s.size) : (s.data.toList.take (i + 1)).flatMap Wx.esc = (s.data.toList.take i).flatMap Wx.esc ++ Wx.esc s[i] := by
  rw [List.take_add_one, Wx.at_get s i h, List.flatMap_append]
  simp
theorem Ow.ret_str {a : List UInt8} {s : ByteArray} (h : s.data.toList = a) : Ending.returned (.string s) = .returned (.string ⟨a.toArray⟩) := by
  rw [show s = ⟨a.toArray⟩ from WideShapes.bytes_inj h]
theorem Ow.boxed (w : World) (o : Obj) : Below w.heap.size w (w.alloc o) := (Below.refl _ _).alloc (Nat.le_refl _) o
set_option maxRecDepth 100000 in
set_option maxHeartbeats 2000000 in
theorem Ow.written56 (w : World) (x1 x2 x3 : Value) : (Calls Try.prog 13 #[.agg #[.int .i64 5, x1, x2, x3]] w fun e w' => e = .returned (.string ⟨#[124]⟩) ∧ Below w.heap.size w w') ∧ (Calls Try.prog 13 #[.agg #[.int .i64 6, x1, x2, x3]] w fun e w' => e = .returned (.string ⟨#[58, 61]⟩) ∧ Below w.heap.size w w') := by
  constructor
  all_goals
    go_enter Try.func13, Try.ntmps13
    go_wp2_with fail
    go_ret
    exact ⟨rfl, Ow.boxed _ _⟩
set_option maxRecDepth 100000 in
set_option maxHeartbeats 2000000 in
theorem Ow.written0 (w : World) (s : ByteArray) (x2 x3 : Value) : Calls Try.prog 13 #[.agg #[.int .i64 0, .string s, x2, x3]] w fun e w' => e = .returned (.string s) ∧ Below w.heap.size w w' := by
  go_enter Try.func13, Try.ntmps13
  go_wp2_with fail
  go_ret
  exact ⟨rfl, Ow.boxed _ _⟩
set_option maxRecDepth 100000 in
set_option maxHeartbeats 2000000 in
theorem Ow.written3n (w : World) (k : Nat) (x1 x2 : Value) (hk : k ≤ 9007199254740991) (h0 : 0 < k) : Calls Try.prog 13 #[.agg #[.int .i64 3, x1, x2, .int .i64 (-(k : Int))]] w fun e w' => e = .returned (.string ⟨(45 :: Lib.decDigits k).toArray⟩) ∧ Below w.heap.size w w' := by
  have de := fun u => Dm.decimal k (by omega) u
  have zde : (Lib.decDigits k).length ≤ 16 := Dm.digits_len 15 k (by omega)
  obtain ⟨DD, hDD⟩ : ∃ DD : ByteArray, (⟨(Lib.decDigits k).toArray⟩ : ByteArray) = DD := ⟨_, rfl⟩
  have HDD : Hid (DD.data.toList = Lib.decDigits k) := by unfold Hid; rw [← hDD]
  rw [hDD] at de
  have zDD : DD.size ≤ 16 := by rw [← Wk.len_data, HDD.out]; exact zde
  have d1 : decide (-(k : Int) < 0) = true := decide_eq_true (by omega)
  clear hDD zde
  go_enter Try.func13, Try.ntmps13
  go_wp2_with (go_at_call 14; refine (de _).mono ?_; rintro e w2 ⟨rfl, b2⟩; have HB2 := Lib.hid (Wk.below_step (Ow.boxed _ _) b2); clear b2 de)
  go_ret
  exact ⟨Ow.ret_str (by rw [Lf.append, HDD.out]; rfl), HB2.out⟩
set_option maxRecDepth 100000 in
set_option maxHeartbeats 2000000 in
theorem Ow.written3p (w : World) (k : Nat) (x1 x2 : Value) (hk : k ≤ 9007199254740991) : Calls Try.prog 13 #[.agg #[.int .i64 3, x1, x2, .int .i64 (k : Int)]] w fun e w' => e = .returned (.string ⟨(Lib.decDigits k).toArray⟩) ∧ Below w.heap.size w w' := by
  have de := fun u => Dm.decimal k (by omega) u
  have d1 : decide ((k : Int) < 0) = false := decide_eq_false (by omega)
  generalize (⟨(Lib.decDigits k).toArray⟩ : ByteArray) = DD at *
  go_enter Try.func13, Try.ntmps13
  go_wp2_with (go_at_call 14; refine (de _).mono ?_; rintro e w2 ⟨rfl, b2⟩; have HB2 := Lib.hid (Wk.below_step (Ow.boxed _ _) b2); clear b2 de)
  go_ret
  exact ⟨rfl, HB2.out⟩
set_option maxRecDepth 100000 in
set_option maxHeartbeats 4000000 in
theorem Ow.written4 (w : World) (s : ByteArray) (x2 x3 : Value) (hs : s.size ≤ 1099511627776) : Calls Try.prog 13 #[.agg #[.int .i64 4, .string s, x2, x3]] w fun e w' => e = .returned (.string ⟨(34 :: (s.data.toList.flatMap Wx.esc ++ [34])).toArray⟩) ∧ Below w.heap.size w w' := by
  go_enter Try.func13, Try.ntmps13
  go_wp2_with fail
  have HBW := Lib.hid (Ow.boxed w (.cells #[.int .i64 4, .string s, x2, x3] 37))
  have HX : Hid (Bs.Box (w.alloc (.cells #[.int .i64 4, .string s, x2, x3] 37)) w.heap.size #[.int .i64 4, .string s, x2, x3] 37) := Bs.Box.new _ _ _ _ rfl
  generalize w.alloc (.cells #[.int .i64 4, .string s, x2, x3] 37) = W at *
  generalize hg : w.heap.size = g at *
  have c1 : W.cell? ⟨g, 1, none⟩ = some (.string s) := HX.out.cell 1 rfl
  clear HX
  go_loopw [3, 4] (fun sv iv wx => ∃ (R : ByteArray) (i : Nat), sv = .string R ∧ iv = .int .i64 (i : Int) ∧ i ≤ s.size ∧ R.size ≤ 2 * i ∧ Hid (R.data.toList = (s.data.toList.take i).flatMap Wx.esc) ∧ wx = W) (fun _ iv _ => s.size - (intOf iv).toNat)
  case atStart => exact ⟨⟨#[]⟩, 0, rfl, rfl, Nat.zero_le _, Nat.le_refl _, rfl, rfl⟩
  case round =>
    obtain ⟨R, i, rfl, rfl, hi, zR, HR, hw⟩ := hrel
    have hw := hw.symm
    subst hw
    by_cases hlt : i < s.size
    · have d1 : decide ((i : Int) < (s.size : Int)) = true := decide_eq_true (by omega)
      obtain ⟨q, hcut, hq, zq⟩ := Lf.cut1 s i hlt
      have HN : Hid (∀ (T : ByteArray), T.data.toList = Wx.esc s[i] → (R ++ T).data.toList = (s.data.toList.take (i + 1)).flatMap Wx.esc ∧ (R ++ T).size ≤ 2 * (i + 1)) := fun T hT => by
        refine ⟨by rw [Lf.append, HR.out, hT, Wx.esc_take hlt], ?_⟩
        have := Wx.esc_len s[i]
        rw [← hT, Wk.len_data] at this
        rw [ByteArray.size_append]
        omega
      have HQ := Lib.hid hq
      clear HR hq
      by_cases e1 : s[i] = 34
      · have t1 : ((s[i].toNat : Int) == 34) = true := Tp.eq_true (d := 34) e1
        have HF := Lib.hid (HN.out (⟨#[92]⟩ ++ q) (by rw [Lf.append, HQ.out, e1]; rfl))
        have ha : (R ++ ⟨#[92]⟩ ++ q) = R ++ (⟨#[92]⟩ ++ q) := ByteArray.append_assoc
        rw [← ha] at HF
        clear e1 HN HQ ha
        go_wp2_with fail
        go_roundw
        case rel => exact ⟨_, i + 1, rfl, by go_num, by omega, HF.out.2, HF.out.1, by first | rfl | trivial⟩
        case measure => simp [intOf]; omega
      have t1 : ((s[i].toNat : Int) == 34) = false := Tp.eq_false (d := 34) e1
      by_cases e2 : s[i] = 92
      · have t2 : ((s[i].toNat : Int) == 92) = true := Tp.eq_true (d := 92) e2
        have HF := Lib.hid (HN.out (⟨#[92]⟩ ++ q) (by rw [Lf.append, HQ.out, e2]; rfl))
        have ha : (R ++ ⟨#[92]⟩ ++ q) = R ++ (⟨#[92]⟩ ++ q) := ByteArray.append_assoc
        rw [← ha] at HF
        clear e1 e2 HN HQ ha
        go_wp2_with fail
        go_roundw
        case rel => exact ⟨_, i + 1, rfl, by go_num, by omega, HF.out.2, HF.out.1, by first | rfl | trivial⟩
        case measure => simp [intOf]; omega
      have t2 : ((s[i].toNat : Int) == 92) = false := Tp.eq_false (d := 92) e2
      by_cases e3 : s[i] = 10
      · have t3 : ((s[i].toNat : Int) == 10) = true := Tp.eq_true (d := 10) e3
        have HF := Lib.hid (HN.out ⟨#[92, 110]⟩ (by rw [e3]; rfl))
        clear e1 e2 e3 HN HQ
        go_wp2_with fail
        go_roundw
        case rel => exact ⟨_, i + 1, rfl, by go_num, by omega, HF.out.2, HF.out.1, by first | rfl | trivial⟩
        case measure => simp [intOf]; omega
      have t3 : ((s[i].toNat : Int) == 10) = false := Tp.eq_false (d := 10) e3
      by_cases e4 : s[i] = 9
      · have t4 : ((s[i].toNat : Int) == 9) = true := Tp.eq_true (d := 9) e4
        have HF := Lib.hid (HN.out ⟨#[92, 116]⟩ (by rw [e4]; rfl))
        clear e1 e2 e3 e4 HN HQ
        go_wp2_with fail
        go_roundw
        case rel => exact ⟨_, i + 1, rfl, by go_num, by omega, HF.out.2, HF.out.1, by first | rfl | trivial⟩
        case measure => simp [intOf]; omega
      have t4 : ((s[i].toNat : Int) == 9) = false := Tp.eq_false (d := 9) e4
      have HF := Lib.hid (HN.out q (by rw [HQ.out]; unfold Wx.esc; rw [if_neg (fun h => h.elim e1 e2), if_neg e3, if_neg e4]))
      clear e1 e2 e3 e4 HN HQ
      go_wp2_with fail
      go_roundw
      case rel => exact ⟨_, i + 1, rfl, by go_num, by omega, HF.out.2, HF.out.1, by first | rfl | trivial⟩
      case measure => simp [intOf]; omega
    · have d1 : decide ((i : Int) < (s.size : Int)) = false := decide_eq_false (by omega)
      have e : i = s.size := by omega
      have hR : R.data.toList = s.data.toList.flatMap Wx.esc := by rw [HR.out, e, ← Wk.len_data, List.take_length]
      have HR2 := Lib.hid hR
      clear HR hR e
      go_wp2_with fail
      go_ret
      exact ⟨Ow.ret_str (by rw [Lf.append, Lf.append, HR2.out]; rfl), HBW.out⟩
set_option maxRecDepth 100000 in
set_option maxHeartbeats 4000000 in
theorem Ow.written1 (w : World) (ts : List (List UInt8)) (Q : Nat → Prop) (v x3 : Value) (hl : St.Lies w Q ts v) (hn : Wx.nms ts) : Calls Try.prog 13 #[.agg #[.int .i64 1, .string ⟨#[]⟩, v, x3]] w fun e w' => e = .returned (.string ⟨(if ts = [] then [46] else Wx.dots ts).toArray⟩) ∧ Below w.heap.size w w' := by
  obtain ⟨a, d, rfl, hd, hm, hx⟩ := hl
  have h8 : ts.length ≤ 8 := hn.1
  have HX := Lib.hid hx
  have HNM := Lib.hid hn.2
  clear hx hn
  go_enter Try.func13, Try.ntmps13
  go_wp2_with fail
  have hbw := Ow.boxed w (.cells #[.int .i64 1, .string ⟨#[]⟩, .slice a ts.length d, x3] 37)
  have HY : Hid (∀ j t, ts[j]? = some t → ∃ b o, a = some ⟨b, o, none⟩ ∧ (w.alloc (.cells #[.int .i64 1, .string ⟨#[]⟩, .slice a ts.length d, x3] 37)).cell? ⟨b, o + j, none⟩ = some (.string ⟨t.toArray⟩)) := fun j t hj => by
    obtain ⟨b, o, ea, _, c⟩ := HX.out j t hj
    exact ⟨b, o, ea, Tp.keep hbw c⟩
  have HBX : Hid (Bs.Box (w.alloc (.cells #[.int .i64 1, .string ⟨#[]⟩, .slice a ts.length d, x3] 37)) w.heap.size #[.int .i64 1, .string ⟨#[]⟩, .slice a ts.length d, x3] 37) := Bs.Box.new _ _ _ _ rfl
  have HBW := Lib.hid hbw
  clear HX hbw
  generalize w.alloc (.cells #[.int .i64 1, .string ⟨#[]⟩, .slice a ts.length d, x3] 37) = W at *
  generalize hg : w.heap.size = g at *
  have c2 : W.cell? ⟨g, 2, none⟩ = some (.slice a ts.length d) := HBX.out.cell 2 rfl
  clear HBX
  go_loopw [3, 5] (fun sv iv wx => ∃ (R : ByteArray) (i : Nat), sv = .string R ∧ iv = .int .i64 (i : Int) ∧ i ≤ ts.length ∧ R.size ≤ 0 + 33 * i ∧ Hid (R.data.toList = [] ++ Wx.dots (ts.take i)) ∧ wx = W) (fun _ iv _ => ts.length - (intOf iv).toNat)
  case atStart => exact ⟨⟨#[]⟩, 0, rfl, rfl, Nat.zero_le _, Nat.le_refl _, rfl, rfl⟩
  case round =>
    obtain ⟨R, i, rfl, rfl, hi, zR, HR, hw⟩ := hrel
    have hw := hw.symm
    subst hw
    by_cases hlt : i < ts.length
    · have d1 : decide ((i : Int) < (ts.length : Int)) = true := decide_eq_true (by omega)
      obtain ⟨b, o, rfl, hc⟩ := HY.out i ts[i] (List.getElem?_eq_getElem hlt)
      have ht := (HNM.out ts[i] (List.getElem_mem hlt)).2.2
      have hid : i < d := by omega
      obtain ⟨T, hT⟩ : ∃ T : ByteArray, (⟨ts[i].toArray⟩ : ByteArray) = T := ⟨_, rfl⟩
      have hTd : T.data.toList = ts[i] := by rw [← hT]
      rw [hT] at hc
      have zT : T.size ≤ 32 := by rw [← Wk.len_data, hTd]; exact ht
      have z2 : (R ++ ⟨#[46]⟩ ++ T).size ≤ 0 + 33 * (i + 1) := by rw [ByteArray.size_append, ByteArray.size_append]; show R.size + 1 + T.size ≤ _; omega
      have HR2 : Hid ((R ++ ⟨#[46]⟩ ++ T).data.toList = [] ++ Wx.dots (ts.take (i + 1))) := by
        unfold Hid
        rw [List.take_add_one, List.getElem?_eq_getElem hlt, Lf.append, Lf.append, HR.out, hTd, show ts.take i ++ (some ts[i]).toList = ts.take i ++ [ts[i]] from rfl, Wx.dots_snoc]
        simp
      clear HR hT hTd ht HY HNM
      go_wp2_with fail
      go_roundw
      case rel => exact ⟨_, i + 1, rfl, by go_num, by omega, z2, HR2, by first | rfl | trivial⟩
      case measure => simp [intOf]; omega
    · have d1 : decide ((i : Int) < (ts.length : Int)) = false := decide_eq_false (by omega)
      have e : i = ts.length := by omega
      have hR : R.data.toList = [] ++ Wx.dots ts := by rw [HR.out, e, List.take_length]
      clear HR HY HNM
      by_cases ht : ts = []
      · subst ht
        have hRe : R = ⟨#[]⟩ := WideShapes.bytes_inj (by rw [hR]; rfl)
        subst hRe
        clear hR e
        go_wp2_with fail
        go_ret
        exact ⟨rfl, HBW.out⟩
      · have hR1 : R.data.toList ≠ [] := by
          rw [hR]
          cases ts with
          | nil => exact absurd rfl ht
          | cons t ts => simp [Wx.dots]
        have hne : (R.toList == []) = false := beq_eq_false_iff_ne.2 (fun q => hR1 (by rw [← ByteArray.toList_eq]; exact q))
        have hne2 : R.toList.isEmpty = false := by
          rw [ByteArray.toList_eq]
          cases hq : R.data.toList with
          | nil => exact absurd hq hR1
          | cons c l => rfl
        have HR2 := Lib.hid hR
        have HT := Lib.hid ht
        clear hR hR1 e ht
        go_wp2_with fail
        go_ret
        exact ⟨Ow.ret_str (by rw [HR2.out]; rfl), HBW.out⟩
set_option maxRecDepth 100000 in
set_option maxHeartbeats 4000000 in
theorem Ow.written2 (w : World) (s : ByteArray) (ts : List (List UInt8)) (Q : Nat → Prop) (v x3 : Value) (hs : s.size ≤ 32) (hl : St.Lies w Q ts v) (hn : Wx.nms ts) : Calls Try.prog 13 #[.agg #[.int .i64 2, .string s, v, x3]] w fun e w' => e = .returned (.string ⟨(36 :: (s.data.toList ++ Wx.dots ts)).toArray⟩) ∧ Below w.heap.size w w' := by
  obtain ⟨a, d, rfl, hd, hm, hx⟩ := hl
  have h8 : ts.length ≤ 8 := hn.1
  have HX := Lib.hid hx
  have HNM := Lib.hid hn.2
  clear hx hn
  go_enter Try.func13, Try.ntmps13
  go_wp2_with fail
  have hbw := Ow.boxed w (.cells #[.int .i64 2, .string s, .slice a ts.length d, x3] 37)
  have HY : Hid (∀ j t, ts[j]? = some t → ∃ b o, a = some ⟨b, o, none⟩ ∧ (w.alloc (.cells #[.int .i64 2, .string s, .slice a ts.length d, x3] 37)).cell? ⟨b, o + j, none⟩ = some (.string ⟨t.toArray⟩)) := fun j t hj => by
    obtain ⟨b, o, ea, _, c⟩ := HX.out j t hj
    exact ⟨b, o, ea, Tp.keep hbw c⟩
  have HBX : Hid (Bs.Box (w.alloc (.cells #[.int .i64 2, .string s, .slice a ts.length d, x3] 37)) w.heap.size #[.int .i64 2, .string s, .slice a ts.length d, x3] 37) := Bs.Box.new _ _ _ _ rfl
  have HBW := Lib.hid hbw
  clear HX hbw
  generalize w.alloc (.cells #[.int .i64 2, .string s, .slice a ts.length d, x3] 37) = W at *
  generalize hg : w.heap.size = g at *
  have c2 : W.cell? ⟨g, 2, none⟩ = some (.slice a ts.length d) := HBX.out.cell 2 rfl
  clear HBX
  go_loopw [3, 5] (fun sv iv wx => ∃ (R : ByteArray) (i : Nat), sv = .string R ∧ iv = .int .i64 (i : Int) ∧ i ≤ ts.length ∧ R.size ≤ (s.size + 1) + 33 * i ∧ Hid (R.data.toList = (36 :: s.data.toList) ++ Wx.dots (ts.take i)) ∧ wx = W) (fun _ iv _ => ts.length - (intOf iv).toNat)
  case atStart => exact ⟨⟨#[36]⟩ ++ s, 0, rfl, rfl, Nat.zero_le _, by rw [ByteArray.size_append]; show 1 + s.size ≤ _; omega, by unfold Hid; rw [Lf.append]; simp [Wx.dots], rfl⟩
  case round =>
    obtain ⟨R, i, rfl, rfl, hi, zR, HR, hw⟩ := hrel
    have hw := hw.symm
    subst hw
    by_cases hlt : i < ts.length
    · have d1 : decide ((i : Int) < (ts.length : Int)) = true := decide_eq_true (by omega)
      obtain ⟨b, o, rfl, hc⟩ := HY.out i ts[i] (List.getElem?_eq_getElem hlt)
      have ht := (HNM.out ts[i] (List.getElem_mem hlt)).2.2
      have hid : i < d := by omega
      obtain ⟨T, hT⟩ : ∃ T : ByteArray, (⟨ts[i].toArray⟩ : ByteArray) = T := ⟨_, rfl⟩
      have hTd : T.data.toList = ts[i] := by rw [← hT]
      rw [hT] at hc
      have zT : T.size ≤ 32 := by rw [← Wk.len_data, hTd]; exact ht
      have z2 : (R ++ ⟨#[46]⟩ ++ T).size ≤ (s.size + 1) + 33 * (i + 1) := by rw [ByteArray.size_append, ByteArray.size_append]; show R.size + 1 + T.size ≤ _; omega
      have HR2 : Hid ((R ++ ⟨#[46]⟩ ++ T).data.toList = (36 :: s.data.toList) ++ Wx.dots (ts.take (i + 1))) := by
        unfold Hid
        rw [List.take_add_one, List.getElem?_eq_getElem hlt, Lf.append, Lf.append, HR.out, hTd, show ts.take i ++ (some ts[i]).toList = ts.take i ++ [ts[i]] from rfl, Wx.dots_snoc]
        simp
      clear HR hT hTd ht HY HNM
      go_wp2_with fail
      go_roundw
      case rel => exact ⟨_, i + 1, rfl, by go_num, by omega, z2, HR2, by first | rfl | trivial⟩
      case measure => simp [intOf]; omega
    · have d1 : decide ((i : Int) < (ts.length : Int)) = false := decide_eq_false (by omega)
      have e : i = ts.length := by omega
      have hR : R.data.toList = (36 :: s.data.toList) ++ Wx.dots ts := by rw [HR.out, e, List.take_length]
      clear HR HY HNM
      have hne : (R.toList == []) = false := beq_eq_false_iff_ne.2 (fun q => by rw [ByteArray.toList_eq, hR] at q; cases q)
      have hne2 : R.toList.isEmpty = false := by rw [ByteArray.toList_eq, hR]; rfl
      have HR2 := Lib.hid hR
      clear hR e
      go_wp2_with fail
      go_ret
      exact ⟨Ow.ret_str (by rw [HR2.out]; rfl), HBW.out⟩
/-- A WORD AS IT IS WRITTEN -/
theorem Ow.written (x : Wo) (v : Value) (Q : Nat → Prop) (w : World) (hx : Wx.good x) (hl : St.Lies w Q x.path v) (hs : x.text.length ≤ 1099511627776) : Calls Try.prog 13 #[.agg #[.int .i64 (x.kind : Int), .string ⟨x.text.toArray⟩, v, .int .i64 x.num]] w fun e w' => e = .returned (.string ⟨(Wx.wr x).toArray⟩) ∧ Below w.heap.size w w' := by
  obtain ⟨k, t, ps, m⟩ := x
  have hsz : (⟨t.toArray⟩ : ByteArray).size = t.length := rfl
  rcases hx with h | h | h | h | h | h | h <;> simp only at h hl hs ⊢
  · obtain ⟨rfl, h1, rfl, rfl⟩ := h
    exact Ow.written0 w _ _ _
  · obtain ⟨rfl, rfl, h1, rfl⟩ := h
    exact Ow.written1 w ps Q v _ hl h1
  · obtain ⟨rfl, h1, h2, rfl⟩ := h
    exact Ow.written2 w ⟨t.toArray⟩ ps Q v _ (by rw [hsz]; exact h1.2.2) hl h2
  · obtain ⟨rfl, rfl, rfl, h1, h2⟩ := h
    by_cases hm : m < 0
    · obtain ⟨u, rfl⟩ : ∃ u : Nat, m = -(u : Int) := ⟨(-m).toNat, by omega⟩
      have e : Wx.wr ⟨3, [], [], -(u : Int)⟩ = 45 :: Lib.decDigits u := by
        show (if -(u : Int) < 0 then 45 :: Lib.decDigits (- -(u : Int)).toNat else Lib.decDigits (-(u : Int)).toNat) = _
        rw [if_pos hm, show (- -(u : Int)).toNat = u by omega]
      rw [e]
      exact Ow.written3n w u _ _ (by omega) (by omega)
    · obtain ⟨u, rfl⟩ : ∃ u : Nat, m = (u : Int) := ⟨m.toNat, by omega⟩
      have e : Wx.wr ⟨3, [], [], (u : Int)⟩ = Lib.decDigits u := by
        show (if (u : Int) < 0 then 45 :: Lib.decDigits (-(u : Int)).toNat else Lib.decDigits ((u : Int)).toNat) = _
        rw [if_neg hm, Int.toNat_natCast]
      rw [e]
      exact Ow.written3p w u _ _ (by omega)
  · obtain ⟨rfl, rfl, rfl⟩ := h
    exact Ow.written4 w ⟨t.toArray⟩ _ _ (by rw [hsz]; exact hs)
  · obtain ⟨rfl, rfl, rfl, rfl⟩ := h
    exact (Ow.written56 w _ _ _).1
  · obtain ⟨rfl, rfl, rfl, rfl⟩ := h
    exact (Ow.written56 w _ _ _).2
end Go.Proofs.Ytnophkbbeipaaaa

/-
  THE WALKS of stoleref1.percent, UrlPart and Known.
-/
import Derived.Test.YtfjhbhddfpkebaaDoorQRow
import Derived.Deep.CutRange
namespace Go.Proofs.YtfjhbhddfpkebaaDoor
open Go.RowKit
theorem Qr.at {T : ByteArray} {i : Nat} (h : i < T.size) : T.data.toList[i]? = some T[i] := by
  rw [List.getElem?_eq_getElem (by rw [Wk.len_data]; exact h)]
  simp [ByteArray.getElem_eq_getElem_data]
theorem Qr.pct_take {s l : List UInt8} {i : Nat} {c : UInt8} (h : l[i]? = some c) : Ug.pct s (l.take (i + 1)) = Ug.pct s (l.take i) ++ Ug.byte s c := by
  have hl := (List.getElem?_eq_some_iff.1 h).1
  have hc := (List.getElem?_eq_some_iff.1 h).2
  rw [List.take_succ_eq_append_getElem hl, hc, Ug.pct_append]
  congr 1
  simp [Ug.pct]
theorem Qr.pct_le (s l : List UInt8) (i : Nat) : (Ug.pct s (l.take i)).length ≤ 3 * l.length := by
  have h1 := (Ug.pct_len s (l.take i)).2
  have h2 : (l.take i).length ≤ l.length := by rw [List.length_take]; omega
  omega
def Qr.digits : ByteArray := ⟨#[48, 49, 50, 51, 52, 53, 54, 55, 56, 57, 65, 66, 67, 68, 69, 70]⟩
theorem Qr.dig (k : Nat) (hk : k < 16) (h : k < Qr.digits.size) : Qr.digits[k]'h = Ug.hex k := by
  have : ∀ k : Fin 16, Qr.digits[k.val]'(by have := k.isLt; show k.val < 16; exact this) = Ug.hex k.val := by decide
  exact this ⟨k, hk⟩
theorem Qr.and15 (c : UInt8) : bits .and .u8 (c.toNat : Int) 15 = (c.toNat : Int) % 16 := by
  have h := Ug.all (p := fun c => decide (bits .and .u8 (c.toNat : Int) 15 = (c.toNat : Int) % 16)) (by decide +kernel) c
  exact of_decide_eq_true h
set_option maxRecDepth 100000 in
set_option maxHeartbeats 4000000 in
theorem Qr.percent (s S : ByteArray) (w : World) (hs : s.size ≤ 1099511627776) (hS : S.size ≤ 1000) :
    Calls Tryd.prog 31 #[.string s, .string S] w fun e w' => e = .returned (.string ⟨(Ug.pct S.data.toList (Pl.normL s.data.toList)).toArray⟩) ∧ Below w.heap.size w w' := by
  have nm := Sz.norm s w (by omega)
  have HNL : Hid ((Pl.normL s.data.toList).length ≤ 3298534883328) := by
    have := Pl.norm_short s.data.toList
    rw [Wk.len_data] at this
    unfold Hid
    omega
  generalize Pl.normL s.data.toList = L at *
  obtain ⟨T, hT⟩ : ∃ T : ByteArray, T = ⟨L.toArray⟩ := ⟨_, rfl⟩
  have hTL : T.data.toList = L := by rw [hT]
  rw [← hT] at nm
  have hTs : T.size = L.length := by rw [hT]; simp [ByteArray.size]
  rw [← hTL] at HNL ⊢
  rw [Wk.len_data] at HNL
  have hT63 : T.size ≤ 9223372036854775807 := by have := HNL.out; omega
  clear hT hTL hTs hs
  have let1 := fun c u => Rt.letter c u
  have dig1 := fun c u => Rt.digit c u
  have in1 := fun c u => Qr.in c S u (by omega)
  generalize HSG : S.data.toList = SG at *
  clear HSG
  go_enter Tryd.func31, Tryd.ntmps31
  go_upto_region 2 with (go_at_call 17; refine nm.mono ?_; rintro e w1 ⟨rfl, b1⟩; clear nm)
  have HB1 := Lib.hid b1
  clear b1
  go_wp2_with fail
  go_loopw [6, 7] (fun ov ix wr => ∃ i : Nat, i ≤ T.size ∧ ix = .int .i64 (i : Int) ∧ Hid (wr.ownsRow w.heap.size 5 1 ov (Ug.pct SG (T.data.toList.take i)).length (Lib.byteCells (Ug.pct SG (T.data.toList.take i)))) ∧ Hid (Below w.heap.size w wr)) (fun _ ix _ => T.size - (intOf ix).toNat)
  case atStart => exact ⟨0, Nat.zero_le _, rfl, World.ownsRow_nil _ _ _ _, HB1.out⟩
  case round =>
    clear HB1
    obtain ⟨i, hi, rfl, HO, HB⟩ := hrel
    obtain ⟨oa, od, rfl⟩ := Rb.form HO.out
    have hws := HB.out.size
    by_cases hlt : i < T.size
    · have d1 : decide ((i : Int) < (T.size : Int)) = true := decide_eq_true (by omega)
      have HTK := Lib.hid (Qr.pct_take (s := SG) (Qr.at hlt))
      have HN3 : Hid ((Ug.pct SG (T.data.toList.take i)).length + 3 ≤ 140737488355328) := by
        have h1 := Qr.pct_le SG T.data.toList i
        rw [Wk.len_data] at h1
        have h2 := HNL.out
        unfold Hid
        omega
      generalize Ug.pct SG (T.data.toList.take i) = acc at *
      have hBY : Ug.byte SG T[i] = if Ug.stays SG T[i] = true then [T[i]] else [37, Ug.hex (T[i].toNat / 16), Ug.hex (T[i].toNat % 16)] := rfl
      have let1 := let1 T[i]
      have dig1 := dig1 T[i]
      have in1 := in1 T[i]
      have HST : Hid (Ug.stays SG T[i] = (Pl.letter T[i] || Pl.digit T[i] || SG.contains T[i])) := rfl
      generalize Pl.letter T[i] = bl at *
      generalize Pl.digit T[i] = bd at *
      generalize SG.contains T[i] = bi at *
      have HN1 : Hid (acc.length + 1 ≤ 140737488355328) := by have := HN3.out; unfold Hid; omega
      by_cases hs : Ug.stays SG T[i] = true
      · rw [hBY, if_pos hs] at HTK
        rw [HST.out] at hs
        clear hBY
        obtain ⟨x1, x2, x3, hc⟩ : ∃ x1 x2 x3 : Bool, (bl = x1 ∧ bd = x2 ∧ bi = x3) ∧ ((x1 = true) ∨ (x1 = false ∧ x2 = true) ∨ (x1 = false ∧ x2 = false ∧ x3 = true)) := ⟨bl, bd, bi, ⟨rfl, rfl, rfl⟩, by cases bl <;> cases bd <;> cases bi <;> simp_all⟩
        obtain ⟨⟨rfl, rfl, rfl⟩, hc⟩ := hc
        clear hs HST
        rcases hc with rfl | ⟨rfl, rfl⟩ | ⟨rfl, rfl, rfl⟩
        all_goals
          go_wp2_with (first | (go_at_call 18; refine (let1 _).mono ?_; rintro e w' ⟨rfl, hw⟩; have hw := hw.symm; subst hw) | (go_at_call 19; refine (dig1 _).mono ?_; rintro e w' ⟨rfl, hw⟩; have hw := hw.symm; subst hw) | (go_at_call 40; refine (in1 _).mono ?_; rintro e w' ⟨rfl, hw⟩; have hw := hw.symm; subst hw) | (at_builtin; refine Rb.push rfl _ _ rfl _ rfl (HO.out.alloc _) wr.heap.size [T[i]] 1 rfl rfl (Rb.new wr #[.int .u8 (T[i].toNat : Int)] 5 _ rfl) HN1.out (by simp; omega) ?_; intro v5 w5 R5 hg5; have HB5 : Hid (Below w.heap.size w w5) := (HB.out.alloc hws _).grown hg5 (by simp; omega) (fun k hk => (HO.out.lt k hk).1); have HR5 := Lib.hid R5; clear R5 hg5))
          go_roundw
          case rel => exact ⟨i + 1, by omega, by go_num, by unfold Hid; rw [HTK.out]; exact HR5.out, HB5⟩
          case measure => simp [intOf]; omega
      · rw [hBY, if_neg hs] at HTK
        rw [HST.out] at hs
        obtain ⟨rfl, rfl, rfl⟩ : bl = false ∧ bd = false ∧ bi = false := by cases bl <;> cases bd <;> cases bi <;> simp_all
        clear hs HST hBY
        have hc256 := T[i].toNat_lt
        have h15 := Qr.and15 T[i]
        have i1 : (0 : Int) ≤ (T[i].toNat : Int) / 16 ∧ (T[i].toNat : Int) / 16 < 16 := by omega
        have i2 : (0 : Int) ≤ (T[i].toNat : Int) % 16 ∧ (T[i].toNat : Int) % 16 < 16 := by omega
        have x1 : ∀ h : ((T[i].toNat : Int) / 16).toNat < 16, (⟨#[48, 49, 50, 51, 52, 53, 54, 55, 56, 57, 65, 66, 67, 68, 69, 70]⟩ : ByteArray)[((T[i].toNat : Int) / 16).toNat]'h = Ug.hex (T[i].toNat / 16) := fun h => by
          have e : ((T[i].toNat : Int) / 16).toNat = T[i].toNat / 16 := by omega
          simp only [e]
          exact Qr.dig _ (by omega) _
        have x2 : ∀ h : ((T[i].toNat : Int) % 16).toNat < 16, (⟨#[48, 49, 50, 51, 52, 53, 54, 55, 56, 57, 65, 66, 67, 68, 69, 70]⟩ : ByteArray)[((T[i].toNat : Int) % 16).toNat]'h = Ug.hex (T[i].toNat % 16) := fun h => by
          have e : ((T[i].toNat : Int) % 16).toNat = T[i].toNat % 16 := by omega
          simp only [e]
          exact Qr.dig _ (by omega) _
        go_upto_region 8 with (first | (go_at_call 18; refine (let1 _).mono ?_; rintro e w' ⟨rfl, hw⟩; have hw := hw.symm; subst hw) | (go_at_call 19; refine (dig1 _).mono ?_; rintro e w' ⟨rfl, hw⟩; have hw := hw.symm; subst hw) | (go_at_call 40; refine (in1 _).mono ?_; rintro e w' ⟨rfl, hw⟩; have hw := hw.symm; subst hw))
        go_region_law (refine Rb.step rfl (.tmp 39) (.tmp 50) rfl (.slice oa acc.length od) (by rfl) (HO.out.alloc _) wr.heap.size [37, Ug.hex (T[i].toNat / 16), Ug.hex (T[i].toNat % 16)] 3 rfl (by rfl) (Rb.new wr.drew #[.int .u8 37, .int .u8 ((Ug.hex (T[i].toNat / 16)).toNat : Int), .int .u8 ((Ug.hex (T[i].toNat % 16)).toNat : Int)] 5 _ rfl) HN3.out (by first | omega | (simp; omega)) ?_; intro v5 w5 R5 hg5; have HB5 : Hid (Below w.heap.size w w5) := (HB.out.drew.alloc hws _).grown hg5 (by simp; omega) (fun k hk => (HO.out.lt k hk).1); have HR5 := Lib.hid R5; clear R5 hg5)
        all_goals
          go_wp2
          go_roundw
          case rel => exact ⟨i + 1, by omega, by go_num, by unfold Hid; rw [HTK.out]; exact HR5.out, HB5⟩
          case measure => simp [intOf]; omega
    · have e : i = T.size := by omega
      subst e
      have d1 : decide ((T.size : Int) < (T.size : Int)) = false := decide_eq_false (by omega)
      have hcv := Rn.conv HO.out
      have HTT : Hid (T.data.toList.take T.size = T.data.toList) := List.take_of_length_le (by rw [Wk.len_data]; exact Nat.le_refl _)
      clear let1 dig1 in1
      go_wp2
      go_ret
      refine ⟨?_, HB.out⟩
      simp only [HTT.out]
      rfl
theorem Qr.part (s : ByteArray) (w : World) (hs : s.size ≤ 1099511627776) :
    Calls Tryd.prog 14 #[.string s] w fun e w' => e = .returned (.string ⟨(Ug.part s.data.toList).toArray⟩) ∧ Below w.heap.size w w' := by
  have pc := Qr.percent s ⟨#[45, 46, 95, 126]⟩ w hs (by decide)
  go_enter Tryd.func14, Tryd.ntmps14
  go_wp2_with (go_at_call 31; refine pc.mono ?_; rintro e w1 ⟨rfl, b1⟩)
  go_ret
  exact ⟨rfl, b1⟩
theorem Qr.lit (l : List UInt8) (n : List UInt8) : ((⟨l.toArray⟩ : ByteArray).toList == n) = decide (l = n) := by
  rw [ByteArray.toList_eq, Bool.eq_iff_iff, beq_iff_eq, decide_eq_true_iff]
theorem Qr.known (l : List UInt8) (w : World) :
    Calls Tryd.prog 30 #[.string ⟨l.toArray⟩] w fun e w' => e = .returned (.bool (Ug.known l)) ∧ w' = w := by
  have hK : Ug.known l = (decide (l = Ug.http) || decide (l = Ug.https) || decide (l = Ug.mailto) || decide (l = Ug.tel)) := rfl
  have e1 : ((⟨l.toArray⟩ : ByteArray).toList == [104, 116, 116, 112]) = decide (l = Ug.http) := Qr.lit l _
  have e2 : ((⟨l.toArray⟩ : ByteArray).toList == [104, 116, 116, 112, 115]) = decide (l = Ug.https) := Qr.lit l _
  have e3 : ((⟨l.toArray⟩ : ByteArray).toList == [109, 97, 105, 108, 116, 111]) = decide (l = Ug.mailto) := Qr.lit l _
  have e4 : ((⟨l.toArray⟩ : ByteArray).toList == [116, 101, 108]) = decide (l = Ug.tel) := Qr.lit l _
  generalize (⟨l.toArray⟩ : ByteArray) = S at *
  rw [hK]
  clear hK
  generalize decide (l = Ug.http) = b1 at *
  generalize decide (l = Ug.https) = b2 at *
  generalize decide (l = Ug.mailto) = b3 at *
  generalize decide (l = Ug.tel) = b4 at *
  cases b1 <;> cases b2 <;> cases b3 <;> cases b4
  all_goals
    go_enter Tryd.func30, Tryd.ntmps30
    go_wp2
    go_ret
    exact ⟨rfl, rfl⟩
end Go.Proofs.YtfjhbhddfpkebaaDoor

/-
  THE WALK of stoleref1.json: values that hold no others.
-/
import Derived.Test.YtboalkfagfgnpaaGreatDoorCJPotoVRefT
import Derived.Test.YtboalkfagfgnpaaGreatDoorCJAgaintoJSaid
namespace Go.Proofs.YtboalkfagfgnpaaGreatDoor
open Go.RowKit
set_option maxRecDepth 100000 in
set_option maxHeartbeats 4000000 in
theorem Jx.json_long {base : Nat} {acc : List UInt8} {ov : Value} (vs : Array Value) (w : World) (hown : w.ownsRow base 5 1 ov acc.length (Lib.byteCells acc)) (hlong : 65536 < acc.length) :
    Calls Tryz.prog 20 #[ov, .agg vs] w fun e w' => e = .returned ov ∧ Below w.heap.size w w' := by
  obtain ⟨oa, od, rfl⟩ := Rb.form hown
  have d1 : decide ((65536 : Int) < (acc.length : Int)) = true := decide_eq_true (by omega)
  have HK := Lib.hid ((Below.refl w.heap.size w).alloc (Nat.le_refl _) (.cells vs 26))
  clear hown hlong
  go_enter Tryz.func20, Tryz.ntmps20
  go_wp2_with fail
  go_ret
  exact ⟨rfl, HK.out⟩
set_option maxRecDepth 100000 in
set_option maxHeartbeats 4000000 in
theorem Jx.json_null {base : Nat} {acc : List UInt8} {ov : Value} (v1 v2 v3 v4 v5 : Value) (w : World) (hb : base ≤ w.heap.size) (hown : w.ownsRow base 5 1 ov acc.length (Lib.byteCells acc)) (hlong : ¬ 65536 < acc.length) :
    Calls Tryz.prog 20 #[ov, .agg #[.int .i64 0, v1, v2, v3, v4, v5]] w fun e w' => ∃ v', e = .returned v' ∧ w'.ownsRow base 5 1 v' (acc ++ [110, 117, 108, 108]).length (Lib.byteCells (acc ++ [110, 117, 108, 108])) ∧ Jx.Kept base w w' := by
  obtain ⟨R, hR⟩ : ∃ R, acc ++ [110, 117, 108, 108] = R := ⟨_, rfl⟩
  have HR := Lib.hid hR
  rw [hR]
  clear hR
  obtain ⟨oa, od, rfl⟩ := Rb.form hown
  have d1 : decide ((65536 : Int) < (acc.length : Int)) = false := decide_eq_false (by omega)
  have HO := Lib.hid (hown.alloc (.cells #[.int .i64 0, v1, v2, v3, v4, v5] 26))
  have HK := Lib.hid ((Jx.Kept.refl base w).alloc hb (.cells #[.int .i64 0, v1, v2, v3, v4, v5] 26))
  have HN : Hid (acc.length + 4 ≤ 140737488355328) := by unfold Hid; omega
  have HBX : Hid (base ≤ (w.alloc (.cells #[.int .i64 0, v1, v2, v3, v4, v5] 26)).heap.size) := by unfold Hid; simp; omega
  clear hown hlong
  go_enter Tryz.func20, Tryz.ntmps20
  go_wp2_with (at_builtin; refine Jx.pushS rfl _ _ rfl _ rfl HO.out ⟨#[110, 117, 108, 108]⟩ rfl HN.out HBX.out ?_; intro v4 w4 R4 hg4; have HB4 := Lib.hid (HK.out.grown HO.out HBX.out hg4); replace R4 : w4.ownsRow base 5 1 v4 R.length (Lib.byteCells R) := (by rw [← HR.out]; exact R4); have HR4 := Lib.hid R4; clear R4 hg4)
  go_ret
  exact ⟨_, rfl, HR4.out, HB4.out⟩
set_option maxRecDepth 100000 in
set_option maxHeartbeats 4000000 in
theorem Jx.json_text {base : Nat} {acc : List UInt8} {ov : Value} (v1 v2 v4 v5 : Value) (s : ByteArray) (w : World) (hb : base ≤ w.heap.size) (hown : w.ownsRow base 5 1 ov acc.length (Lib.byteCells acc)) (hlong : ¬ 65536 < acc.length) (hs : s.size ≤ 65536) :
    Calls Tryz.prog 20 #[ov, .agg #[.int .i64 4, v1, v2, .string s, v4, v5]] w fun e w' => ∃ v', e = .returned v' ∧ w'.ownsRow base 5 1 v' (acc ++ Js.quoted s.data.toList).length (Lib.byteCells (acc ++ Js.quoted s.data.toList)) ∧ Jx.Kept base w w' := by
  obtain ⟨R, hR⟩ : ∃ R, acc ++ Js.quoted s.data.toList = R := ⟨_, rfl⟩
  rw [hR]
  have HO := Lib.hid (hown.alloc (.cells #[.int .i64 4, v1, v2, .string s, v4, v5] 26))
  have HK := Lib.hid ((Jx.Kept.refl base w).alloc hb (.cells #[.int .i64 4, v1, v2, .string s, v4, v5] 26))
  have q := Jx.quoted s base acc ov (w.alloc (.cells #[.int .i64 4, v1, v2, .string s, v4, v5] 26)) (by omega) (by omega) (by simp; omega) HO.out
  rw [hR] at q
  clear hR
  obtain ⟨oa, od, rfl⟩ := Rb.form hown
  have d1 : decide ((65536 : Int) < (acc.length : Int)) = false := decide_eq_false (by omega)
  clear hown hlong
  go_enter Tryz.func20, Tryz.ntmps20
  go_wp2_with (go_at_call 45; refine q.mono ?_; rintro e w4 ⟨v', rfl, R4, K4⟩; obtain ⟨oa4, od4, rfl⟩ := Rb.form R4; have HB4 := Lib.hid (HK.out.trans K4); have HR4 := Lib.hid R4; clear R4 K4 q)
  go_ret
  exact ⟨_, rfl, HR4.out, HB4.out⟩
set_option maxRecDepth 100000 in
set_option maxHeartbeats 4000000 in
theorem Jx.json_real {base : Nat} {acc : List UInt8} {ov : Value} (v1 v3 v4 v5 : Value) (b : Nat) (hbb : b < 18446744073709551616) (w : World) (hb : base ≤ w.heap.size) (hown : w.ownsRow base 5 1 ov acc.length (Lib.byteCells acc)) (hlong : ¬ 65536 < acc.length) :
    Calls Tryz.prog 20 #[ov, .agg #[.int .i64 3, v1, .int .u64 (b : Int), v3, v4, v5]] w fun e w' => ∃ v', e = .returned v' ∧ w'.ownsRow base 5 1 v' (acc ++ Js.real b).length (Lib.byteCells (acc ++ Js.real b)) ∧ Jx.Kept base w w' := by
  obtain ⟨R, hR⟩ : ∃ R, acc ++ Js.real b = R := ⟨_, rfl⟩
  rw [hR]
  have HO := Lib.hid (hown.alloc (.cells #[.int .i64 3, v1, .int .u64 (b : Int), v3, v4, v5] 26))
  have HK := Lib.hid ((Jx.Kept.refl base w).alloc hb (.cells #[.int .i64 3, v1, .int .u64 (b : Int), v3, v4, v5] 26))
  have HBX : Hid (base ≤ (w.alloc (.cells #[.int .i64 3, v1, .int .u64 (b : Int), v3, v4, v5] 26)).heap.size) := by unfold Hid; simp; omega
  have rk := fun u => Rs.real b hbb u
  have rt := fun u => Rs.text b hbb u
  have hlen := Js.real_len b
  obtain ⟨oa, od, rfl⟩ := Rb.form hown
  have d1 : decide ((65536 : Int) < (acc.length : Int)) = false := decide_eq_false (by omega)
  have hc : Re.kind b = 0 ∨ Re.kind b = 1 ∨ Re.kind b = 2 ∨ Re.kind b = 3 ∨ Re.kind b = 4 := by have := Rt.kind_le b; omega
  obtain ⟨T, hT⟩ : ∃ T : ByteArray, T = ⟨(Re.text b).toArray⟩ := ⟨_, rfl⟩
  have hTl : T.data.toList = Re.text b := by rw [hT]
  have hTs : T.size ≤ 60 := by rw [← hTl, Array.length_toList] at hlen; exact hlen
  rw [← hT] at rt
  have HN : Hid (acc.length + 4 ≤ 140737488355328) := by unfold Hid; omega
  have HN2 : Hid (acc.length + T.size ≤ 140737488355328) := by unfold Hid; omega
  have qq := fun (u : World) h1 h2 => Jx.quoted T base acc (.slice oa acc.length od) u (by omega) (by omega) h1 h2
  have HRN : Re.kind b < 2 → Hid (acc ++ [110, 117, 108, 108] = R) := fun q => by unfold Hid; rw [← hR, Js.real, if_pos q]
  have HRQ : Re.kind b = 4 → Hid (acc ++ Js.quoted T.data.toList = R) := fun q => by unfold Hid; rw [← hR, hTl, Js.real, if_neg (by omega), if_pos q]
  have HRT : ¬ Re.kind b < 2 → ¬ Re.kind b = 4 → Hid (acc ++ T.data.toList = R) := fun q p => by unfold Hid; rw [← hR, hTl, Js.real, if_neg q, if_neg p]
  clear hown hlong hT hR hlen hTl hTs
  rcases hc with e | e | e | e | e
  · have HR := HRN (by omega)
    rw [e] at rk
    clear HRN HRQ HRT e rt qq
    go_enter Tryz.func20, Tryz.ntmps20
    go_wp2_with (first | (go_at_call 31; refine (rk _).mono ?_; rintro e w' ⟨rfl, hw⟩; have hw := hw.symm; subst hw) | (at_builtin; refine Jx.pushS rfl _ _ rfl _ rfl HO.out ⟨#[110, 117, 108, 108]⟩ rfl HN.out HBX.out ?_; intro v4 w4 R4 hg4; have HB4 := Lib.hid (HK.out.grown HO.out HBX.out hg4); replace R4 : w4.ownsRow base 5 1 v4 R.length (Lib.byteCells R) := (by rw [← HR.out]; exact R4); have HR4 := Lib.hid R4; clear R4 hg4))
    go_ret
    exact ⟨_, rfl, HR4.out, HB4.out⟩
  · have HR := HRN (by omega)
    rw [e] at rk
    clear HRN HRQ HRT e rt qq
    go_enter Tryz.func20, Tryz.ntmps20
    go_wp2_with (first | (go_at_call 31; refine (rk _).mono ?_; rintro e w' ⟨rfl, hw⟩; have hw := hw.symm; subst hw) | (at_builtin; refine Jx.pushS rfl _ _ rfl _ rfl HO.out ⟨#[110, 117, 108, 108]⟩ rfl HN.out HBX.out ?_; intro v4 w4 R4 hg4; have HB4 := Lib.hid (HK.out.grown HO.out HBX.out hg4); replace R4 : w4.ownsRow base 5 1 v4 R.length (Lib.byteCells R) := (by rw [← HR.out]; exact R4); have HR4 := Lib.hid R4; clear R4 hg4))
    go_ret
    exact ⟨_, rfl, HR4.out, HB4.out⟩
  · have HR := HRT (by omega) (by omega)
    rw [e] at rk
    clear HRN HRQ HRT e qq
    go_enter Tryz.func20, Tryz.ntmps20
    go_wp2_with (first | (go_at_call 31; refine (rk _).mono ?_; rintro e w' ⟨rfl, hw⟩; have hw := hw.symm; subst hw) | (go_at_call 32; refine (rt _).mono ?_; rintro e w3 ⟨rfl, b3⟩; have HO3 := Lib.hid (Jx.on HO.out b3); have HK3 := Lib.hid (HK.out.more HBX.out b3); have HBX3 := Lib.hid (Nat.le_trans HBX.out b3.size); clear b3) | (at_builtin; refine Jx.pushS rfl _ _ rfl _ rfl HO3.out T rfl HN2.out HBX3.out ?_; intro v4 w4 R4 hg4; have HB4 := Lib.hid (HK3.out.grown HO3.out HBX3.out hg4); replace R4 : w4.ownsRow base 5 1 v4 R.length (Lib.byteCells R) := (by rw [← HR.out]; exact R4); have HR4 := Lib.hid R4; clear R4 hg4))
    go_ret
    exact ⟨_, rfl, HR4.out, HB4.out⟩
  · have HR := HRT (by omega) (by omega)
    rw [e] at rk
    clear HRN HRQ HRT e qq
    go_enter Tryz.func20, Tryz.ntmps20
    go_wp2_with (first | (go_at_call 31; refine (rk _).mono ?_; rintro e w' ⟨rfl, hw⟩; have hw := hw.symm; subst hw) | (go_at_call 32; refine (rt _).mono ?_; rintro e w3 ⟨rfl, b3⟩; have HO3 := Lib.hid (Jx.on HO.out b3); have HK3 := Lib.hid (HK.out.more HBX.out b3); have HBX3 := Lib.hid (Nat.le_trans HBX.out b3.size); clear b3) | (at_builtin; refine Jx.pushS rfl _ _ rfl _ rfl HO3.out T rfl HN2.out HBX3.out ?_; intro v4 w4 R4 hg4; have HB4 := Lib.hid (HK3.out.grown HO3.out HBX3.out hg4); replace R4 : w4.ownsRow base 5 1 v4 R.length (Lib.byteCells R) := (by rw [← HR.out]; exact R4); have HR4 := Lib.hid R4; clear R4 hg4))
    go_ret
    exact ⟨_, rfl, HR4.out, HB4.out⟩
  · have HR := HRQ e
    rw [e] at rk
    rw [HR.out] at qq
    clear HRN HRQ HRT e
    go_enter Tryz.func20, Tryz.ntmps20
    go_wp2_with (first | (go_at_call 31; refine (rk _).mono ?_; rintro e w' ⟨rfl, hw⟩; have hw := hw.symm; subst hw) | (go_at_call 32; refine (rt _).mono ?_; rintro e w3 ⟨rfl, b3⟩; have HO3 := Lib.hid (Jx.on HO.out b3); have HK3 := Lib.hid (HK.out.more HBX.out b3); have HBX3 := Lib.hid (Nat.le_trans HBX.out b3.size); clear b3) | (go_at_call 45; refine (qq _ HBX3.out HO3.out).mono ?_; rintro e w4 ⟨v', rfl, R4, K4⟩; obtain ⟨oa4, od4, rfl⟩ := Rb.form R4; have HB4 := Lib.hid (HK3.out.trans K4); have HR4 := Lib.hid R4; clear R4 K4))
    go_ret
    exact ⟨_, rfl, HR4.out, HB4.out⟩
end Go.Proofs.YtboalkfagfgnpaaGreatDoor
/-
  THE WALK of stoleref1.json: Bools and Ints.
-/
namespace Go.Proofs.YtboalkfagfgnpaaGreatDoor
open Go.RowKit
set_option maxRecDepth 100000 in
set_option maxHeartbeats 4000000 in
theorem Jx.json_tell {base : Nat} {acc : List UInt8} {ov : Value} (k x : Int) (ai ak : Option Addr) (c dk : Nat) (T : ByteArray) (w : World) (hb : base ≤ w.heap.size) (hown : w.ownsRow base 5 1 ov acc.length (Lib.byteCells acc)) (hlong : ¬ 65536 < acc.length) (hk : k = 1 ∨ k = 2) (hT : T.size ≤ 60)
    (tl : ∀ u : World, w.heap.size ≤ u.heap.size → ∃ bo, Calls Tryz.prog 46 #[.agg #[.int .i64 k, .int .i64 x, .int .u64 0, .string ⟨#[]⟩, .slice ai 0 c, .slice ak 0 dk]] u fun e w' => e = .returned (.tuple #[.string T, .bool bo]) ∧ Below u.heap.size u w') :
    Calls Tryz.prog 20 #[ov, .agg #[.int .i64 k, .int .i64 x, .int .u64 0, .string ⟨#[]⟩, .slice ai 0 c, .slice ak 0 dk]] w fun e w' => ∃ v', e = .returned v' ∧ w'.ownsRow base 5 1 v' (acc ++ T.data.toList).length (Lib.byteCells (acc ++ T.data.toList)) ∧ Jx.Kept base w w' := by
  obtain ⟨R, hR⟩ : ∃ R, acc ++ T.data.toList = R := ⟨_, rfl⟩
  rw [hR]
  have HR := Lib.hid hR
  have HO := Lib.hid (hown.alloc (.cells #[.int .i64 k, .int .i64 x, .int .u64 0, .string ⟨#[]⟩, .slice ai 0 c, .slice ak 0 dk] 26))
  have HK := Lib.hid ((Jx.Kept.refl base w).alloc hb (.cells #[.int .i64 k, .int .i64 x, .int .u64 0, .string ⟨#[]⟩, .slice ai 0 c, .slice ak 0 dk] 26))
  have HBX : Hid (base ≤ (w.alloc (.cells #[.int .i64 k, .int .i64 x, .int .u64 0, .string ⟨#[]⟩, .slice ai 0 c, .slice ak 0 dk] 26)).heap.size) := by unfold Hid; simp; omega
  obtain ⟨bo, tl⟩ := tl (w.alloc (.cells #[.int .i64 k, .int .i64 x, .int .u64 0, .string ⟨#[]⟩, .slice ai 0 c, .slice ak 0 dk] 26)) (by simp)
  obtain ⟨oa, od, rfl⟩ := Rb.form hown
  have d1 : decide ((65536 : Int) < (acc.length : Int)) = false := decide_eq_false (by omega)
  have HN2 : Hid (acc.length + T.size ≤ 140737488355328) := by unfold Hid; omega
  clear hown hlong hR hT
  rcases hk with rfl | rfl
  all_goals
    go_enter Tryz.func20, Tryz.ntmps20
    go_wp2_with (first | (go_at_call 46; refine tl.mono ?_; rintro e w3 ⟨rfl, b3⟩; have HO3 := Lib.hid (Jx.on HO.out b3); have HK3 := Lib.hid (HK.out.more HBX.out b3); have HBX3 := Lib.hid (Nat.le_trans HBX.out b3.size); clear b3) | (at_builtin; refine Jx.pushS rfl _ _ rfl _ rfl HO3.out T rfl HN2.out HBX3.out ?_; intro v4 w4 R4 hg4; have HB4 := Lib.hid (HK3.out.grown HO3.out HBX3.out hg4); replace R4 : w4.ownsRow base 5 1 v4 R.length (Lib.byteCells R) := (by rw [← HR.out]; exact R4); have HR4 := Lib.hid R4; clear R4 hg4))
    go_ret
    exact ⟨_, rfl, HR4.out, HB4.out⟩
end Go.Proofs.YtboalkfagfgnpaaGreatDoor
/-
  THE WALK of stoleref1.json: Lists and Records.
-/
namespace Go.Proofs.YtboalkfagfgnpaaGreatDoor
open Go.RowKit
theorem Jx.box {base : Nat} {w w' : World} {g : Nat} {v0 v1 v2 v3 v4 v5 : Value} (h : Jx.Kept base w w') (hB : Vm.Box w g v0 v1 v2 v3 v4 v5) : Vm.Box w' g v0 v1 v2 v3 v4 v5 :=
  ⟨h.rest g _ hB.all (by simp) (fun c fz q => by injection q with _ q2 _; exact absurd q2 (by decide))⟩
set_option maxRecDepth 100000 in
set_option maxHeartbeats 4000000 in
theorem Jx.json_list {base : Nat} {acc : List UInt8} {ov : Value} (d : Nat) (x : Int) (b : Nat) (s : ByteArray) (n : Nat) (it : Nat → Vt) (m : Nat) (ks : Nat → ByteArray) (v : Value) (w : World) (hb : base ≤ w.heap.size) (hown : w.ownsRow base 5 1 ov acc.length (Lib.byteCells acc)) (hlong : ¬ 65536 < acc.length) (hd : d ≤ 64) (hok : Js.Ok (d + 1) (.mk 5 x b s n it m ks)) (hl : (Vt.mk 5 x b s n it m ks).Lies w (· < base) v)
    (HI : Hid (∀ i, i < n → ∀ (acc : List UInt8) (v ov : Value) (w : World), base ≤ w.heap.size → acc.length ≤ 1099511627776 → (it i).Lies w (· < base) v → w.ownsRow base 5 1 ov acc.length (Lib.byteCells acc) → Calls Tryz.prog 20 #[ov, v] w fun e w' => ∃ v', e = .returned v' ∧ w'.ownsRow base 5 1 v' (Js.pj (it i) acc).length (Lib.byteCells (Js.pj (it i) acc)) ∧ Jx.Kept base w w')) :
    Calls Tryz.prog 20 #[ov, v] w fun e w' => ∃ v', e = .returned v' ∧ w'.ownsRow base 5 1 v' (Js.pj (.mk 5 x b s n it m ks) acc).length (Lib.byteCells (Js.pj (.mk 5 x b s n it m ks) acc)) ∧ Jx.Kept base w w' := by
  obtain ⟨R, hR⟩ : ∃ R, Js.pj (.mk 5 x b s n it m ks) acc = R := ⟨_, rfl⟩
  rw [hR]
  obtain ⟨F, hF⟩ : ∃ F : Nat → List UInt8 → List UInt8, F = fun i a => Js.pj (it i) (a ++ Js.pre 5 ks i) := ⟨_, rfl⟩
  have HF := Lib.hid hF
  have HR : Hid (Js.runp F n (acc ++ [91]) ++ [93] = R) := by
    unfold Hid
    rw [← hR, Js.pj, if_neg hlong, if_neg (by omega), hF]
    rfl
  obtain ⟨hf, hb64, hi⟩ := hok
  obtain ⟨hn64, -⟩ := Js.formed_many hf (by omega)
  have HL : Hid (∀ j, j ≤ n → (Js.runp F j (acc ++ [91])).length ≤ 200000000) := by
    intro j hj
    have := Js.run_len (k := 5) (ks := ks) acc hlong hi (fun _ _ => .inl rfl) (fun i out q => Js.pj_len d (it i) out q) j hj
    rw [hF]
    have : 2000000 * d ≤ 128000000 := by omega
    show (Js.runp (fun i a => Js.pj (it i) (a ++ Js.pre 5 ks i)) j (acc ++ [Js.open 5])).length ≤ 200000000
    omega
  have H := Lib.hid hl
  obtain ⟨ai, c, ak, dk, rfl, hbi, hn, hc, hk, hit⟩ := hl
  obtain ⟨oa, od, rfl⟩ := Rb.form hown
  have d1 : decide ((65536 : Int) < (acc.length : Int)) = false := decide_eq_false (by omega)
  have HO := Lib.hid (hown.alloc (.cells #[.int .i64 5, .int .i64 x, .int .u64 (b : Int), .string s, .slice ai n c, .slice ak m dk] 26))
  have HK := Lib.hid ((Jx.Kept.refl base w).alloc hb (.cells #[.int .i64 5, .int .i64 x, .int .u64 (b : Int), .string s, .slice ai n c, .slice ak m dk] 26))
  have HBX : Hid (base ≤ (w.alloc (.cells #[.int .i64 5, .int .i64 x, .int .u64 (b : Int), .string s, .slice ai n c, .slice ak m dk] 26)).heap.size) := by unfold Hid; simp; omega
  have HB : Hid (Vm.Box (w.alloc (.cells #[.int .i64 5, .int .i64 x, .int .u64 (b : Int), .string s, .slice ai n c, .slice ak m dk] 26)) w.heap.size (.int .i64 5) (.int .i64 x) (.int .u64 (b : Int)) (.string s) (.slice ai n c) (.slice ak m dk)) := ⟨Vm.Has.new w (.cells #[.int .i64 5, .int .i64 x, .int .u64 (b : Int), .string s, .slice ai n c, .slice ak m dk] 26) _ rfl⟩
  have HN1 : Hid (acc.length + 1 ≤ 140737488355328) := by unfold Hid; omega
  obtain ⟨acc1, hacc1⟩ : ∃ l, l = acc ++ [91] := ⟨_, rfl⟩
  rw [← hacc1] at HR HL
  have HC1 := Lib.hid hacc1
  clear hown hlong hR hF hf hi hk hit hacc1
  go_enter Tryz.func20, Tryz.ntmps20
  go_wp2_with (at_builtin; refine Rb.push rfl _ _ rfl _ rfl (HO.out.alloc _) (w.heap.size + 1) [91] 1 rfl rfl (Rb.new (w.alloc (.cells #[.int .i64 5, .int .i64 x, .int .u64 (b : Int), .string s, .slice ai n c, .slice ak m dk] 26)) #[.int .u8 91] 5 _ (by simp)) HN1.out (by simp; omega) ?_; intro v1 w1 R1 hg1; have HK1 := Lib.hid ((HK.out.alloc HBX.out _).grown (HO.out.alloc _) (by simp; omega) hg1); replace R1 : w1.ownsRow base 5 1 v1 acc1.length (Lib.byteCells acc1) := (by rw [HC1.out]; exact R1); have HB1 : Hid (Vm.Box w1 w.heap.size (.int .i64 5) (.int .i64 x) (.int .u64 (b : Int)) (.string s) (.slice ai n c) (.slice ak m dk)) := Jx.box ((Jx.Kept.refl base (w.alloc (.cells #[.int .i64 5, .int .i64 x, .int .u64 (b : Int), .string s, .slice ai n c, .slice ak m dk] 26))).alloc HBX.out _ |>.grown (HO.out.alloc _) (by simp; omega) hg1) HB.out; have HR1 := Lib.hid R1; clear R1 hg1)
  go_loopw [0, 7] (fun ov ix wr => ∃ i : Nat, i ≤ n ∧ ix = .int .i64 (i : Int) ∧ Hid (wr.ownsRow base 5 1 ov (Js.runp F i acc1).length (Lib.byteCells (Js.runp F i acc1))) ∧ Hid (Jx.Kept base w wr) ∧ Hid (Vm.Box wr w.heap.size (.int .i64 5) (.int .i64 x) (.int .u64 (b : Int)) (.string s) (.slice ai n c) (.slice ak m dk))) (fun _ ix _ => n - (intOf ix).toNat)
  case atStart => exact ⟨0, Nat.zero_le _, rfl, HR1, HK1, HB1⟩
  case round =>
    clear HK1 HB1 HR1 HK HB HO HBX HN1 HC1 d1
    obtain ⟨i, hin, rfl, HO, HK, HB⟩ := hrel
    have c4 := HB.out.cells.2.2.2.2.1
    have c0 := HB.out.cells.1
    have HAL := Lib.hid (HL.out i hin)
    have hbr := Nat.le_trans hb HK.out.back.size
    by_cases hlt : i < n
    · have dj : decide ((i : Int) < (n : Int)) = true := decide_eq_true (by omega)
      obtain ⟨A2, hA2⟩ : ∃ l, l = Js.runp F i acc1 ++ Js.pre 5 ks i := ⟨_, rfl⟩
      obtain ⟨B, hB⟩ : ∃ l, Js.pj (it i) A2 = l := ⟨_, rfl⟩
      have HBB : Hid (Js.runp F (i + 1) acc1 = B) := by
        unfold Hid
        rw [← hB, hA2, Js.runp, HF.out]
      have HCM : Hid (A2 = Js.runp F i acc1 ++ Js.comma i) := by
        unfold Hid
        rw [hA2, Js.pre, if_pos rfl, List.append_nil]
      have HI1 := HI.out i hlt A2
      rw [hB] at HI1
      have hcm : (Js.comma i).length ≤ 1 := by unfold Js.comma; split <;> simp
      have hA2l : A2.length ≤ 1099511627776 := by
        have := HAL.out
        rw [HCM.out, List.length_append]
        omega
      have HI2 := fun v ov u h1 => HI1 v ov u h1 hA2l
      clear HI1 hA2 hB HF hcm hA2l
      obtain ⟨bi, oi, v0, v1, v2, v3, v4, v5, rfl, hbi1, y0, y1, y2, y3, y4, y5, hli0⟩ := (H.out.keys).2.2 i hlt
      have hli := hli0.below HK.out.back
      have hbl := HK.out.back.block bi hbi1
      replace y0 := Vt.cell_on hbl y0
      replace y1 := Vt.cell_on hbl y1
      replace y2 := Vt.cell_on hbl y2
      replace y3 := Vt.cell_on hbl y3
      replace y4 := Vt.cell_on hbl y4
      replace y5 := Vt.cell_on hbl y5
      clear hli0 hbl
      have hjc : i < c := Nat.lt_of_lt_of_le hlt hn
      obtain ⟨k', x', b', s', ai', n', c', ak', m', d', rfl, rfl, rfl, rfl, rfl, rfl⟩ := hli.cells
      have HLI := Lib.hid hli
      clear hli
      generalize Js.runp F i acc1 = A at *
      obtain ⟨oa2, od2, rfl⟩ := Rb.form HO.out
      by_cases h0 : i = 0
      · have d0 : decide ((0 : Int) < (i : Int)) = false := decide_eq_false (by omega)
        have d0n : decide (0 < i) = false := decide_eq_false (by omega)
        have HC : Hid (A2 = A) := by unfold Hid; rw [HCM.out, Js.comma, if_pos h0, List.append_nil]
        have HO2 : Hid (wr.ownsRow base 5 1 (.slice oa2 A.length od2) A2.length (Lib.byteCells A2)) := by unfold Hid; rw [HC.out]; exact HO.out
        have hcall := HI2 _ _ _ hbr HLI.out HO2.out
        clear HI2 HCM h0
        go_wp2_with (go_at_call 20; refine hcall.mono ?_; rintro e w4 ⟨v', rfl, R4, K4⟩; have HB4 := Lib.hid (HK.out.trans K4); have HX4 := Lib.hid (Jx.box K4 HB.out); have HR4 := Lib.hid R4; clear R4 K4)
        go_roundw
        case rel => exact ⟨i + 1, by omega, by go_num, by unfold Hid; rw [HBB.out]; exact HR4.out, HB4, HX4⟩
        case measure => simp [intOf]; omega
      · have d0 : decide ((0 : Int) < (i : Int)) = true := decide_eq_true (by omega)
        have d0n : decide (0 < i) = true := decide_eq_true (by omega)
        have HC : Hid (A2 = A ++ [44]) := by unfold Hid; rw [HCM.out, Js.comma, if_neg h0]
        have HN1 : Hid (A.length + 1 ≤ 140737488355328) := by have := HAL.out; unfold Hid; omega
        clear HCM h0
        go_wp2_with (first | (at_builtin; refine Rb.push rfl _ _ rfl _ rfl (HO.out.alloc _) wr.heap.size [44] 1 rfl rfl (Rb.new wr #[.int .u8 44] 5 _ rfl) HN1.out (by simp; omega) ?_; intro v2 w2 R2 hg2; have K2 := ((Jx.Kept.refl base wr).alloc hbr _).grown (HO.out.alloc _) (by simp; omega) hg2; have HK2 := Lib.hid (HK.out.trans K2); replace R2 : w2.ownsRow base 5 1 v2 A2.length (Lib.byteCells A2) := (by rw [HC.out]; exact R2); have HB2 := Lib.hid (Jx.box K2 HB.out); have hcall := HI2 _ _ _ (Nat.le_trans hbr K2.back.size) (HLI.out.below K2.back) R2; have hbl := K2.back.block bi hbi1; replace y0 := Vt.cell_on hbl y0; replace y1 := Vt.cell_on hbl y1; replace y2 := Vt.cell_on hbl y2; replace y3 := Vt.cell_on hbl y3; replace y4 := Vt.cell_on hbl y4; replace y5 := Vt.cell_on hbl y5; replace c4 := HB2.out.cells.2.2.2.2.1; replace c0 := HB2.out.cells.1; obtain ⟨oa3, od3, rfl⟩ := Rb.form R2; clear R2 hg2 K2 hbl) | (go_at_call 20; refine hcall.mono ?_; rintro e w4 ⟨v', rfl, R4, K4⟩; have HB4 := Lib.hid (HK2.out.trans K4); have HX4 := Lib.hid (Jx.box K4 HB2.out); have HR4 := Lib.hid R4; clear R4 K4))
        go_roundw
        case rel => exact ⟨i + 1, by omega, by go_num, by unfold Hid; rw [HBB.out]; exact HR4.out, HB4, HX4⟩
        case measure => simp [intOf]; omega
    · have dj : decide ((i : Int) < (n : Int)) = false := decide_eq_false (by omega)
      have djn : decide (i < n) = false := decide_eq_false (by omega)
      have ei : i = n := by omega
      have HN1 : Hid ((Js.runp F i acc1).length + 1 ≤ 140737488355328) := by have := HAL.out; unfold Hid; omega
      have HRR : Hid (Js.runp F i acc1 ++ [93] = R) := by rw [ei]; exact HR
      clear HR ei hlt HF HI
      generalize Js.runp F i acc1 = A at *
      obtain ⟨oa2, od2, rfl⟩ := Rb.form HO.out
      go_wp2_with (at_builtin; refine Rb.push rfl _ _ rfl _ rfl (HO.out.alloc _) wr.heap.size [93] 1 rfl rfl (Rb.new wr #[.int .u8 93] 5 _ rfl) HN1.out (by simp; omega) ?_; intro v2 w2 R2 hg2; have HK2 := Lib.hid ((HK.out.alloc hbr _).grown (HO.out.alloc _) (by simp; omega) hg2); replace R2 : w2.ownsRow base 5 1 v2 R.length (Lib.byteCells R) := (by rw [← HRR.out]; exact R2); have HR2 := Lib.hid R2; clear R2 hg2)
      go_ret
      exact ⟨_, rfl, HR2.out, HK2.out⟩
end Go.Proofs.YtboalkfagfgnpaaGreatDoor

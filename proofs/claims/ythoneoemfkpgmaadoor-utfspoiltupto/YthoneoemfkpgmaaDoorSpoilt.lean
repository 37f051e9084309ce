/-
  THE WALK of stolelaw1.UtfSpoilt: for any numbers and any text of up to 2^40 bytes it returns true, and turns nothing that was there.
-/
import Derived.Test.YthoneoemfkpgmaaDoorAwake
namespace Go.Proofs.YthoneoemfkpgmaaDoor
open Go.RowKit

/-- the five bytes that are of no sign -/
def Sp.five : List UInt8 := [255, 192, 245, 128, 0]
/-- behind k rounds: a's bytes, want's bytes -/
structure Sp.Rel (k : Nat) (la lw : List UInt8) : Prop where
  la2 : la.length = 2 * k
  lw4 : lw.length = 4 * k
  norm : ∀ r, Pl.normL (la ++ r) = lw ++ Pl.normL r
theorem Sp.start : Sp.Rel 0 [] [] := ⟨rfl, rfl, fun _ => rfl⟩
theorem Sp.sgn_bad (b : UInt8) (r : List UInt8) (h : b = 255 ∨ b = 192 ∨ b = 245 ∨ b = 128 ∨ b = 0) : Pl.sgn (b :: r) = 0 := by
  have e : ∀ b0 n b1 b2 b3, (b0 = 255 ∨ b0 = 192 ∨ b0 = 245 ∨ b0 = 128 ∨ b0 = 0) → Pl.sgnN n b0 b1 b2 b3 = 0 := by
    intro b0 n b1 b2 b3 h
    unfold Pl.sgnN
    repeat' split
    all_goals omega
  refine e _ _ _ _ _ ?_
  show b.toNat = 255 ∨ b.toNat = 192 ∨ b.toNat = 245 ∨ b.toNat = 128 ∨ b.toNat = 0
  rcases h with rfl | rfl | rfl | rfl | rfl <;> decide
theorem Sp.sgn_x (r : List UInt8) (c : UInt8) (h : c = 120 ∨ c = 121) : Pl.sgn (c :: r) = 1 := by
  have e : Pl.sgn [c] = 1 := by rcases h with rfl | rfl <;> decide
  have := Pl.sgn_append [c] r (by rw [e]; decide)
  rw [e] at this
  exact this
theorem Sp.norm_x (r : List UInt8) (c : UInt8) (h : c = 120 ∨ c = 121) : Pl.normL (c :: r) = c :: Pl.normL r := by
  rw [Pl.normL_sign _ (by rw [Sp.sgn_x r c h]; decide), Sp.sgn_x r c h]; rfl
theorem Sp.Rel.step {k : Nat} {la lw : List UInt8} (h : Sp.Rel k la lw) (b : UInt8) (hb : b = 255 ∨ b = 192 ∨ b = 245 ∨ b = 128 ∨ b = 0) :
    Sp.Rel (k + 1) (la ++ [120] ++ [b]) (lw ++ [120, 239, 191, 189]) := by
  refine ⟨?_, ?_, fun r => ?_⟩
  · have := h.la2; simp; omega
  · have := h.lw4; simp; omega
  · rw [List.append_assoc, List.append_assoc, h.norm]
    show lw ++ Pl.normL (120 :: (b :: r)) = _
    rw [Sp.norm_x _ _ (.inl rfl), Pl.normL_bad _ (by simp) (Sp.sgn_bad b r hb)]
    simp [Pl.fffd]
theorem Sp.Rel.may {k : Nat} {la lw : List UInt8} (h : Sp.Rel k la lw) : Pl.mayL la = decide (k = 0) := by
  have e : Pl.normL la = lw := by
    have := h.norm []
    simpa [Pl.normL_nil] using this
  rw [Bool.eq_iff_iff, ← Pl.norm_eq_iff, e, decide_eq_true_iff]
  have h1 := h.la2
  have h2 := h.lw4
  constructor
  · intro hh; rw [hh] at h2; omega
  · intro hk
    subst hk
    rw [List.eq_nil_of_length_eq_zero (by omega : la.length = 0), List.eq_nil_of_length_eq_zero (by omega : lw.length = 0)]
theorem Sp.Rel.last {k : Nat} {la lw : List UInt8} (h : Sp.Rel k la lw) (t : List UInt8) : Pl.normL (la ++ [121] ++ Pl.normL t) = lw ++ [121] ++ Pl.normL t := by
  rw [List.append_assoc, h.norm]
  show lw ++ Pl.normL (121 :: Pl.normL t) = _
  rw [Sp.norm_x _ _ (.inr rfl), Pl.norm_norm]
  simp

theorem Sp.conv_one (W : World) (c : UInt8) (z : Int) (hz : (c.toNat : Int) = z) (S : ByteArray) (hS : S.data.toList = [c]) :
    (convert 26 9 (.slice (some ⟨W.heap.size, 0, none⟩) 1 1)).run Tryd.prog (W.alloc (.cells #[.int .u8 z] 5)) = .ok (.string S) (W.alloc (.cells #[.int .u8 z] 5)) := by
  have h := run_convert_bytes_back (P := Tryd.prog) (W.alloc (.cells #[.int .u8 z] 5)) 26 9 5 ⟨W.heap.size, 0, none⟩ 1 [c] Tryd.underlying26 Tryd.underlying5 Tryd.underlying9 (fun j hj => by
    have hj0 : j = 0 := by simp at hj; omega
    subst hj0
    have e : (⟨W.heap.size, 0, none⟩ : Addr).add 0 = ⟨W.heap.size, 0, none⟩ := by rw [Addr.add_lit]
    rw [e, World.cell?_alloc_mark W #[.int .u8 z] 5 (0, 0) 0, ← hz]
    rfl)
  have e : (⟨[c].toArray⟩ : ByteArray) = S := by
    apply ByteArray.ext
    apply Array.toList_inj.1
    rw [hS]
  rwa [e] at h
theorem Sp.cat_data (s t : ByteArray) : (s ++ t).data.toList = s.data.toList ++ t.data.toList := by
  rw [ByteArray.data_append, Array.toList_append]
theorem Sp.cat_size (s t : ByteArray) : (s ++ t).size = s.size + t.size := by
  rw [← Wk.len_data, Sp.cat_data, List.length_append, Wk.len_data, Wk.len_data]
theorem Sp.rem (z : Int) : ∃ r : Nat, wrap64 ((IntKind.u64.wrap z).tmod 5) = (r : Int) ∧ r < 5 := by
  have h0 : 0 ≤ IntKind.u64.wrap z := by simp [IntKind.wrap, IntKind.bits, IntKind.signed]; omega
  have h1 : 0 ≤ (IntKind.u64.wrap z).tmod 5 := Int.tmod_nonneg 5 h0
  have h2 : (IntKind.u64.wrap z).tmod 5 < 5 := Int.tmod_lt_of_pos _ (by decide)
  have h3 : wrap64 ((IntKind.u64.wrap z).tmod 5) = (IntKind.u64.wrap z).tmod 5 := by unfold wrap64; omega
  exact ⟨((IntKind.u64.wrap z).tmod 5).toNat, by rw [h3]; omega, by omega⟩
theorem Sp.round {k : Nat} {A T S : ByteArray} {c : UInt8} (h : Sp.Rel k A.data.toList T.data.toList) (hS : S.data.toList = [c]) (hc : c = 255 ∨ c = 192 ∨ c = 245 ∨ c = 128 ∨ c = 0) :
    Sp.Rel (k + 1) (A ++ { data := #[120] } ++ S).data.toList (T ++ { data := #[120, 239, 191, 189] }).data.toList := by
  rw [Sp.cat_data, Sp.cat_data, Sp.cat_data, hS]
  exact h.step c hc

theorem Sp.norm_last {k : Nat} {A T : ByteArray} (h : Sp.Rel k A.data.toList T.data.toList) (hk : k ≤ 30) (s X : ByteArray) (hX : (⟨(Pl.normL s.data.toList).toArray⟩ : ByteArray) = X) (hs : X.size ≤ 35184372080000) (w : World) (hT : Lib.Utf8Tabs 0 1 w) :
    Calls Tryd.prog 10 #[.string (A ++ { data := #[121] } ++ X)] w fun e w' => e = .returned (.string (T ++ { data := #[121] } ++ X)) ∧ Below w.heap.size w w' := by
  have hA := h.la2
  rw [Wk.len_data] at hA
  have h121 : ({ data := #[121] } : ByteArray).size = 1 := rfl
  have hn := Wk.norm (A ++ { data := #[121] } ++ X) w hT (by rw [Sp.cat_size, Sp.cat_size, h121]; omega)
  have e : (⟨(Pl.normL (A ++ { data := #[121] } ++ X).data.toList).toArray⟩ : ByteArray) = T ++ { data := #[121] } ++ X := by
    subst hX
    apply ByteArray.ext
    apply Array.toList_inj.1
    rw [Sp.cat_data, Sp.cat_data, Sp.cat_data, Sp.cat_data]
    exact h.last s.data.toList
  rwa [e] at hn
theorem Sp.may_last {k : Nat} {A T : ByteArray} (h : Sp.Rel k A.data.toList T.data.toList) (hk : k ≤ 30) (len : Nat) (hl : k = len ∨ (k = 30 ∧ 30 ≤ len)) (w : World) (hT : Lib.Utf8Tabs 0 1 w) :
    Calls Tryd.prog 8 #[.string A] w fun e w' => e = .returned (.bool ((len : Int) == 0)) ∧ Below w.heap.size w w' := by
  have hA := h.la2
  rw [Wk.len_data] at hA
  have hm := Wk.may A w hT (by unfold maxLen; omega)
  have e : Pl.mayL A.data.toList = ((len : Int) == 0) := by
    rw [h.may, Bool.eq_iff_iff, decide_eq_true_iff, beq_iff_eq]
    omega
  rwa [e] at hm

set_option maxHeartbeats 2000000 in
theorem Law.spoilt (b off len cap : Nat) (zs : List Int) (s : ByteArray) (w : World) (hT : Lib.Utf8Tabs 0 1 w) (hs : s.size ≤ 1099511627776) (hl : len ≤ 9223372036854775807)
    (hc : ∀ i, i < len → w.cell? ⟨b, off + i, none⟩ = some (.int .i64 (zs.getD i 0))) :
    Calls Tryd.prog 7 #[.slice (some ⟨b, off, none⟩) len cap, .string s] w fun e w' => e = .returned (.bool true) ∧ Below w.heap.size w w' := by
  go_enter Tryd.func7, Tryd.ntmps7
  go_wp2_with fail
  refine (Wk.awake w hT).mono ?_
  rintro e w1 ⟨rfl, b1⟩
  go_wp2
  go_loopw [5, 6, 7] (fun a t i wr => ∃ (k : Nat) (A T : ByteArray), k ≤ len ∧ k ≤ 30 ∧ i = .int .i64 k ∧ a = .string A ∧ t = .string T ∧ Sp.Rel k A.data.toList T.data.toList ∧ Below w.heap.size w wr) (fun _ _ i _ => len - (intOf i).toNat)
  case atStart => exact ⟨0, ⟨#[]⟩, ⟨#[]⟩, Nat.zero_le _, Nat.zero_le _, rfl, rfl, rfl, Sp.start, b1⟩
  case round =>
    clear b1
    obtain ⟨k, A, T, hk, hk30, rfl, rfl, rfl, hrel, hb⟩ := hrel
    by_cases hlt : k < len ∧ k < 30
    · obtain ⟨h1, h2⟩ := hlt
      have hold := hc k h1
      have hbl : b < w.heap.size := by
        rcases Nat.lt_or_ge b w.heap.size with h' | h'
        · exact h'
        · simp [World.cell?, Array.getElem?_eq_none h'] at hold
      have hcell : wr.cell? ⟨b, off + k, none⟩ = some (.int .i64 (zs.getD k 0)) := (hb.cell (p := ⟨b, off + k, none⟩) hbl).trans hold
      have hbw : b < wr.heap.size := Nat.lt_of_lt_of_le hbl hb.size
      have d30 : decide ((k : Int) < 30) = true := decide_eq_true (by omega)
      obtain ⟨z, hz⟩ : ∃ z, zs.getD k 0 = z := ⟨_, rfl⟩
      rw [hz] at hcell
      clear hz hc hold hbl
      have hA := hrel.la2
      have hW := hrel.lw4
      rw [Wk.len_data] at hA hW
      have hA2 : A.size ≤ 60 := by omega
      have hW2 : T.size ≤ 120 := by omega
      clear hA hW
      have hnew : ∀ o, Below w.heap.size w ((wr.alloc (.cells #[.int .u8 255, .int .u8 192, .int .u8 245, .int .u8 128, .int .u8 0] 5)).alloc o) := fun o => (hb.alloc hb.size _).alloc (by have := hb.size; simp; omega) o
      obtain ⟨r, hr, hr5⟩ := Sp.rem z
      have hcase : r = 0 ∨ r = 1 ∨ r = 2 ∨ r = 3 ∨ r = 4 := by omega
      clear hr5
      rcases hcase with rfl | rfl | rfl | rfl | rfl
      · obtain ⟨S, hS⟩ : ∃ S : ByteArray, S.data.toList = [255] := ⟨⟨#[255]⟩, rfl⟩
        have hss : S.size = 1 := by rw [← Wk.len_data, hS]; rfl
        have hcv := Sp.conv_one (wr.alloc (.cells #[.int .u8 255, .int .u8 192, .int .u8 245, .int .u8 128, .int .u8 0] 5)) 255 255 rfl S hS
        have hsz : (wr.alloc (.cells #[.int .u8 255, .int .u8 192, .int .u8 245, .int .u8 128, .int .u8 0] 5)).heap.size = wr.heap.size + 1 := by simp
        rw [hsz] at hcv
        clear hsz
        have HR := Sp.round (c := 255) hrel hS (by decide)
        clear hS
        go_wp2
        go_roundw
        case rel => exact ⟨k + 1, _, _, by omega, by omega, by go_num, rfl, rfl, HR, hnew _⟩
        case measure => simp [intOf]; omega
      · obtain ⟨S, hS⟩ : ∃ S : ByteArray, S.data.toList = [192] := ⟨⟨#[192]⟩, rfl⟩
        have hss : S.size = 1 := by rw [← Wk.len_data, hS]; rfl
        have hcv := Sp.conv_one (wr.alloc (.cells #[.int .u8 255, .int .u8 192, .int .u8 245, .int .u8 128, .int .u8 0] 5)) 192 192 rfl S hS
        have hsz : (wr.alloc (.cells #[.int .u8 255, .int .u8 192, .int .u8 245, .int .u8 128, .int .u8 0] 5)).heap.size = wr.heap.size + 1 := by simp
        rw [hsz] at hcv
        clear hsz
        have HR := Sp.round (c := 192) hrel hS (by decide)
        clear hS
        go_wp2
        go_roundw
        case rel => exact ⟨k + 1, _, _, by omega, by omega, by go_num, rfl, rfl, HR, hnew _⟩
        case measure => simp [intOf]; omega
      · obtain ⟨S, hS⟩ : ∃ S : ByteArray, S.data.toList = [245] := ⟨⟨#[245]⟩, rfl⟩
        have hss : S.size = 1 := by rw [← Wk.len_data, hS]; rfl
        have hcv := Sp.conv_one (wr.alloc (.cells #[.int .u8 255, .int .u8 192, .int .u8 245, .int .u8 128, .int .u8 0] 5)) 245 245 rfl S hS
        have hsz : (wr.alloc (.cells #[.int .u8 255, .int .u8 192, .int .u8 245, .int .u8 128, .int .u8 0] 5)).heap.size = wr.heap.size + 1 := by simp
        rw [hsz] at hcv
        clear hsz
        have HR := Sp.round (c := 245) hrel hS (by decide)
        clear hS
        go_wp2
        go_roundw
        case rel => exact ⟨k + 1, _, _, by omega, by omega, by go_num, rfl, rfl, HR, hnew _⟩
        case measure => simp [intOf]; omega
      · obtain ⟨S, hS⟩ : ∃ S : ByteArray, S.data.toList = [128] := ⟨⟨#[128]⟩, rfl⟩
        have hss : S.size = 1 := by rw [← Wk.len_data, hS]; rfl
        have hcv := Sp.conv_one (wr.alloc (.cells #[.int .u8 255, .int .u8 192, .int .u8 245, .int .u8 128, .int .u8 0] 5)) 128 128 rfl S hS
        have hsz : (wr.alloc (.cells #[.int .u8 255, .int .u8 192, .int .u8 245, .int .u8 128, .int .u8 0] 5)).heap.size = wr.heap.size + 1 := by simp
        rw [hsz] at hcv
        clear hsz
        have HR := Sp.round (c := 128) hrel hS (by decide)
        clear hS
        go_wp2
        go_roundw
        case rel => exact ⟨k + 1, _, _, by omega, by omega, by go_num, rfl, rfl, HR, hnew _⟩
        case measure => simp [intOf]; omega
      · obtain ⟨S, hS⟩ : ∃ S : ByteArray, S.data.toList = [0] := ⟨⟨#[0]⟩, rfl⟩
        have hss : S.size = 1 := by rw [← Wk.len_data, hS]; rfl
        have hcv := Sp.conv_one (wr.alloc (.cells #[.int .u8 255, .int .u8 192, .int .u8 245, .int .u8 128, .int .u8 0] 5)) 0 0 rfl S hS
        have hsz : (wr.alloc (.cells #[.int .u8 255, .int .u8 192, .int .u8 245, .int .u8 128, .int .u8 0] 5)).heap.size = wr.heap.size + 1 := by simp
        rw [hsz] at hcv
        clear hsz
        have HR := Sp.round (c := 0) hrel hS (by decide)
        clear hS
        go_wp2
        go_roundw
        case rel => exact ⟨k + 1, _, _, by omega, by omega, by go_num, rfl, rfl, HR, hnew _⟩
        case measure => simp [intOf]; omega
    · have hend : k = len ∨ (k = 30 ∧ 30 ≤ len) := by omega
      have t1 := Utf8Tabs_below hT hb
      obtain ⟨X, hX⟩ : ∃ X : ByteArray, (⟨(Pl.normL s.data.toList).toArray⟩ : ByteArray) = X := ⟨_, rfl⟩
      have HX : Hid ((⟨(Pl.normL s.data.toList).toArray⟩ : ByteArray) = X) := hX
      have hx1 : X.size ≤ 3 * s.size := by
        have hxd : X.data.toList = Pl.normL s.data.toList := by rw [← hX]
        rw [← Wk.len_data, ← Wk.len_data, hxd]; exact Pl.norm_short _
      clear hX
      have hA := hrel.la2
      have hW := hrel.lw4
      rw [Wk.len_data] at hA hW
      have hA2 : A.size ≤ 60 := by omega
      have hW2 : T.size ≤ 120 := by omega
      clear hA hW hc
      by_cases h1 : k < len
      · have d30 : decide ((k : Int) < 30) = false := decide_eq_false (by omega)
        go_wp2_with fail
        refine (Wk.norm s wr t1 (by omega)).mono ?_
        rintro e w2 ⟨rfl, b2⟩
        rw [HX.out]
        have t2 := Utf8Tabs_below t1 b2
        have b2' := Wk.below_step hb b2
        clear t1 hb b2
        go_wp2_with fail
        refine (Sp.norm_last hrel hk30 s X HX.out (by omega) w2 t2).mono ?_
        rintro e w3 ⟨rfl, b3⟩
        have t3 := Utf8Tabs_below t2 b3
        have b3' := Wk.below_step b2' b3
        clear t2 b2' b3
        go_wp2_with fail
        refine (Sp.may_last hrel hk30 len hend w3 t3).mono ?_
        rintro e w4 ⟨rfl, b4⟩
        have b4' := Wk.below_step b3' b4
        clear t3 b3' b4
        go_wp2_with fail
        refine (Wk.num w4).mono ?_
        rintro e w5 ⟨rfl, rfl⟩
        go_wp2
        go_ret
        exact ⟨rfl, b4'⟩
      · have d30 : (len : Int) ≤ (k : Int) := by omega
        go_wp2_with fail
        refine (Wk.norm s wr t1 (by omega)).mono ?_
        rintro e w2 ⟨rfl, b2⟩
        rw [HX.out]
        have t2 := Utf8Tabs_below t1 b2
        have b2' := Wk.below_step hb b2
        clear t1 hb b2
        go_wp2_with fail
        refine (Sp.norm_last hrel hk30 s X HX.out (by omega) w2 t2).mono ?_
        rintro e w3 ⟨rfl, b3⟩
        have t3 := Utf8Tabs_below t2 b3
        have b3' := Wk.below_step b2' b3
        clear t2 b2' b3
        go_wp2_with fail
        refine (Sp.may_last hrel hk30 len hend w3 t3).mono ?_
        rintro e w4 ⟨rfl, b4⟩
        have b4' := Wk.below_step b3' b4
        clear t3 b3' b4
        go_wp2_with fail
        refine (Wk.num w4).mono ?_
        rintro e w5 ⟨rfl, rfl⟩
        go_wp2
        go_ret
        exact ⟨rfl, b4'⟩

set_option maxHeartbeats 2000000 in
theorem Law.spoilt_none (a : Option Addr) (cap : Nat) (s : ByteArray) (w : World) (hT : Lib.Utf8Tabs 0 1 w) (hs : s.size ≤ 1099511627776) :
    Calls Tryd.prog 7 #[.slice a 0 cap, .string s] w fun e w' => e = .returned (.bool true) ∧ Below w.heap.size w w' := by
  go_enter Tryd.func7, Tryd.ntmps7
  go_wp2_with fail
  refine (Wk.awake w hT).mono ?_
  rintro e w1 ⟨rfl, b1⟩
  go_wp2
  go_loopw [5, 6, 7] (fun a t i wr => ∃ (A T : ByteArray), i = .int .i64 0 ∧ a = .string A ∧ t = .string T ∧ Sp.Rel 0 A.data.toList T.data.toList ∧ Below w.heap.size w wr) (fun _ _ i _ => 1 - (intOf i).toNat)
  case atStart => exact ⟨⟨#[]⟩, ⟨#[]⟩, rfl, rfl, rfl, Sp.start, b1⟩
  case round =>
    clear b1
    obtain ⟨A, T, rfl, rfl, rfl, hrel, hb⟩ := hrel
    have t1 := Utf8Tabs_below hT hb
    obtain ⟨X, hX⟩ : ∃ X : ByteArray, (⟨(Pl.normL s.data.toList).toArray⟩ : ByteArray) = X := ⟨_, rfl⟩
    have HX : Hid ((⟨(Pl.normL s.data.toList).toArray⟩ : ByteArray) = X) := hX
    have hx1 : X.size ≤ 3 * s.size := by
      have hxd : X.data.toList = Pl.normL s.data.toList := by rw [← hX]
      rw [← Wk.len_data, ← Wk.len_data, hxd]; exact Pl.norm_short _
    clear hX
    have hA := hrel.la2
    have hW := hrel.lw4
    rw [Wk.len_data] at hA hW
    have hA2 : A.size ≤ 60 := by omega
    have hW2 : T.size ≤ 120 := by omega
    clear hA hW
    go_wp2_with fail
    refine (Wk.norm s wr t1 (by omega)).mono ?_
    rintro e w2 ⟨rfl, b2⟩
    rw [HX.out]
    have t2 := Utf8Tabs_below t1 b2
    have b2' := Wk.below_step hb b2
    clear t1 hb b2
    go_wp2_with fail
    refine (Sp.norm_last hrel (by omega) s X HX.out (by omega) w2 t2).mono ?_
    rintro e w3 ⟨rfl, b3⟩
    have t3 := Utf8Tabs_below t2 b3
    have b3' := Wk.below_step b2' b3
    clear t2 b2' b3
    go_wp2_with fail
    refine (Sp.may_last hrel (by omega) 0 (.inl rfl) w3 t3).mono ?_
    rintro e w4 ⟨rfl, b4⟩
    have b4' := Wk.below_step b3' b4
    clear t3 b3' b4
    go_wp2_with fail
    refine (Wk.num w4).mono ?_
    rintro e w5 ⟨rfl, rfl⟩
    go_wp2
    go_ret
    exact ⟨rfl, b4'⟩
end Go.Proofs.YthoneoemfkpgmaaDoor

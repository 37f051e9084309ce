/-
  THE WALK of stolelaw5.TokenHeld: whatever the number and the two texts, the call returns true.
-/
import Derived.Test.YtjbkgokiikbaeaaDoorTAwake
import Derived.Test.YtjbkgokiikbaeaaDoorTQuiet
import Derived.Test.YtjbkgokiikbaeaaDoorTHeld
import Derived.Test.YtjbkgokiikbaeaaDoorRDec
import Derived.Deep.RegionHeld
import Derived.Deep.QuietTactic
import Derived.BigQuiet
namespace Go.Proofs.YtjbkgokiikbaeaaDoor
open Go.RowKit
theorem Hd.which (n : Int) : ∃ u i j : Nat, IntKind.u64.wrap n = (u : Int) ∧ u < 18446744073709551616 ∧ (u : Int) % 4 = (i : Int) ∧ i < 4 ∧ ((i : Int) + 1) % 4 = (j : Int) ∧ j < 4 ∧ j = (i + 1) % 4 := by
  have h : 0 ≤ IntKind.u64.wrap n ∧ IntKind.u64.wrap n < 18446744073709551616 := by
    unfold IntKind.wrap
    simp [IntKind.bits, IntKind.signed]
    omega
  exact ⟨(IntKind.u64.wrap n).toNat, ((IntKind.u64.wrap n) % 4).toNat, ((((IntKind.u64.wrap n) % 4).toNat + 1) % 4), by omega, by omega, by omega, by omega, by omega, by omega, rfl⟩
theorem Hd.quietAs (s : ByteArray) (w : World) : Calls Tryd.prog 9 #[.string s, .int .u8 0] w fun e w' => e = .returned (.string ⟨(Qt.quiet 0 s.data.toList).toArray⟩) ∧ w' = w := by
  refine (Qt.walk s 0 w).mono ?_
  rintro e w' ⟨x, rfl, hx, rfl⟩
  refine ⟨?_, rfl⟩
  have : x = ⟨(Qt.quiet 0 s.data.toList).toArray⟩ := by
    apply ByteArray.ext
    rw [← hx]
  rw [this]
theorem Hd.clean (l : List UInt8) : ∀ c ∈ Qt.quiet 0 l, c ≠ 60 ∧ c ≠ 38 ∧ c ≠ 13 := by
  intro c hc
  have h := (List.mem_filter.1 hc).2
  unfold Qt.ok at h
  simp at h
  exact ⟨h.1.1.1, h.1.1.2, h.1.2⟩
theorem Hd.cell (i : Nat) (hi : i < 4) (V : World) : (V.alloc (.cells #[.string ⟨#[115, 99, 114, 105, 112, 116]⟩, .string ⟨#[115, 116, 121, 108, 101]⟩, .string ⟨#[116, 105, 116, 108, 101]⟩, .string ⟨#[116, 101, 120, 116, 97, 114, 101, 97]⟩] 9)).cell? ⟨V.heap.size, i, none⟩ = some (.string (Hd.nm i)) := by
  rcases Hd.four hi with rfl | rfl | rfl | rfl
  all_goals (simp; rfl)
theorem Hd.size (i : Nat) (hi : i < 4) : 5 ≤ (Hd.nm i).size ∧ (Hd.nm i).size ≤ 8 := by
  rcases Hd.four hi with rfl | rfl | rfl | rfl
  all_goals decide
theorem Hd.rest (i : Nat) (hi : i < 4) : (Hd.nm i).extract 1 (Hd.nm i).size = ⟨((Hd.name i).drop 1).toArray⟩ := by
  rcases Hd.four hi with rfl | rfl | rfl | rfl
  all_goals decide
theorem Hd.lit (V : World) (a b : ByteArray) : Tk.Lies (V.alloc (.cells #[.int .i64 1, .string a, .string ⟨#[]⟩, .slice none 0 0, .bool false, .int .i64 0, .string ⟨#[]⟩, .string b, .slice none 0 0, .bool false, .int .i64 2, .string a, .string ⟨#[]⟩, .slice none 0 0, .bool false, .int .i64 0, .string ⟨#[]⟩, .string ⟨#[121]⟩, .slice none 0 0, .bool false] 30)) (fun k => V.heap.size ≤ k) [⟨1, a, Ts.e, [], false⟩, ⟨0, Ts.e, b, [], false⟩, ⟨2, a, Ts.e, [], false⟩, ⟨0, Ts.e, ⟨#[121]⟩, [], false⟩] (.slice (some ⟨V.heap.size, 0, none⟩) 4 4) :=
  Tk.Lies.lit [⟨1, a, Ts.e, [], false⟩, ⟨0, Ts.e, b, [], false⟩, ⟨2, a, Ts.e, [], false⟩, ⟨0, Ts.e, ⟨#[121]⟩, [], false⟩] [.slice none 0 0, .slice none 0 0, .slice none 0 0, .slice none 0 0] _ (heap_alloc_new V _) rfl (Nat.le_refl _) (by show (4 : Nat) ≤ maxLen; decide) ⟨Ak.Lies.nil _ _, Ak.Lies.nil _ _, Ak.Lies.nil _ _, Ak.Lies.nil _ _, trivial⟩
theorem Hd.litD (V : World) (a b : ByteArray) : Tk.Lies (V.alloc (.cells #[.int .i64 1, .string a, .string ⟨#[]⟩, .slice none 0 0, .bool false, .int .i64 0, .string ⟨#[]⟩, .string b, .slice none 0 0, .bool false, .int .i64 2, .string a, .string ⟨#[]⟩, .slice none 0 0, .bool false, .int .i64 0, .string ⟨#[]⟩, .string ⟨#[121]⟩, .slice none 0 0, .bool false] 30)).drew (fun k => V.heap.size ≤ k) [⟨1, a, Ts.e, [], false⟩, ⟨0, Ts.e, b, [], false⟩, ⟨2, a, Ts.e, [], false⟩, ⟨0, Ts.e, ⟨#[121]⟩, [], false⟩] (.slice (some ⟨V.heap.size, 0, none⟩) 4 4) := Hd.lit V a b
theorem Hd.same (V : World) (B : Nat) (a b : ByteArray) (v : Value) (h : Tk.Lies V (fun k => B ≤ k ∧ k < V.heap.size) [⟨1, a, Ts.e, [], false⟩, ⟨0, Ts.e, b, [], false⟩, ⟨2, a, Ts.e, [], false⟩, ⟨0, Ts.e, ⟨#[121]⟩, [], false⟩] v) :
    Calls Tryd.prog 10 #[v, .slice (some ⟨V.heap.size, 0, none⟩) 4 4] (V.alloc (.cells #[.int .i64 1, .string a, .string ⟨#[]⟩, .slice none 0 0, .bool false, .int .i64 0, .string ⟨#[]⟩, .string b, .slice none 0 0, .bool false, .int .i64 2, .string a, .string ⟨#[]⟩, .slice none 0 0, .bool false, .int .i64 0, .string ⟨#[]⟩, .string ⟨#[121]⟩, .slice none 0 0, .bool false] 30)).drew fun e w' => e = .returned (.bool true) ∧ Below V.heap.size V w' := by
  have h2 := Hd.litD V a b
  have hb : Below V.heap.size V (V.alloc (.cells #[.int .i64 1, .string a, .string ⟨#[]⟩, .slice none 0 0, .bool false, .int .i64 0, .string ⟨#[]⟩, .string b, .slice none 0 0, .bool false, .int .i64 2, .string a, .string ⟨#[]⟩, .slice none 0 0, .bool false, .int .i64 0, .string ⟨#[]⟩, .string ⟨#[121]⟩, .slice none 0 0, .bool false] 30)).drew := Sa.drews ((Below.refl _ _).alloc (Nat.le_refl _) _) 1
  generalize (V.alloc (.cells #[.int .i64 1, .string a, .string ⟨#[]⟩, .slice none 0 0, .bool false, .int .i64 0, .string ⟨#[]⟩, .string b, .slice none 0 0, .bool false, .int .i64 2, .string a, .string ⟨#[]⟩, .slice none 0 0, .bool false, .int .i64 0, .string ⟨#[]⟩, .string ⟨#[121]⟩, .slice none 0 0, .bool false] 30)).drew = D at *
  refine (Sa.tokens _ _ _ (fun _ => True) _ D (h.on fun k hk => ⟨trivial, hb.block k hk.2⟩) h2).mono ?_
  rintro e w3 ⟨rfl, n3, rfl⟩
  exact ⟨rfl, Sa.drews hb n3⟩
/-- the sums that the law makes -/
theorem Hd.page (i j : Nat) (hi : i < 4) (hj : j = (i + 1) % 4) (s t : List UInt8) (hs : ∀ c ∈ s, c ≠ 60 ∧ c ≠ 38 ∧ c ≠ 13) (ht : ∀ c ∈ t, c ≠ 60 ∧ c ≠ 38 ∧ c ≠ 13) (ns : s.length ≤ 300) (nt : t.length ≤ 300) (S T : ByteArray) (hS : S = ⟨s.toArray⟩) (hT : T = ⟨t.toArray⟩) :
    ∃ A1 A2 A3 A4 A5 A6 A7 B1 B2 B3 B4 B5 B6 : ByteArray, S ++ (⟨#[60, 112, 62, 60, 47]⟩ : ByteArray) = A1 ∧ A1 ++ Hd.nm j = A2 ∧ A2 ++ (⟨#[62, 60, 47]⟩ : ByteArray) = A3 ∧ A3 ++ (Hd.nm i).extract 1 (Hd.nm i).size = A4 ∧ A4 ++ (⟨#[62]⟩ : ByteArray) = A5 ∧ A5 ++ T = A6 ∧ A6 ++ (⟨#[60]⟩ : ByteArray) = A7 ∧
      (⟨#[60]⟩ : ByteArray) ++ Hd.nm i = B1 ∧ B1 ++ (⟨#[62]⟩ : ByteArray) = B2 ∧ B2 ++ A7 = B3 ∧ B3 ++ (⟨#[60, 47]⟩ : ByteArray) = B4 ∧ B4 ++ Hd.nm i = B5 ∧ B5 ++ (⟨#[32, 120, 62, 121]⟩ : ByteArray) = B6 ∧
      A1.size ≤ 1000 ∧ A2.size ≤ 1000 ∧ A3.size ≤ 1000 ∧ A4.size ≤ 1000 ∧ A5.size ≤ 1000 ∧ A6.size ≤ 1000 ∧ A7.size ≤ 1000 ∧ B1.size ≤ 2000 ∧ B2.size ≤ 2000 ∧ B3.size ≤ 2000 ∧ B4.size ≤ 2000 ∧ B5.size ≤ 2000 ∧ B6.size ≤ 2000 ∧
      Rd.tokens B6 = [⟨1, Hd.nm i, Ts.e, [], false⟩, ⟨0, Ts.e, A7, [], false⟩, ⟨2, Hd.nm i, Ts.e, [], false⟩, ⟨0, Ts.e, ⟨#[121]⟩, [], false⟩] := by
  have h := Hd.tokens i hi s t hs ht
  have e7 : S ++ (⟨#[60, 112, 62, 60, 47]⟩ : ByteArray) ++ Hd.nm j ++ (⟨#[62, 60, 47]⟩ : ByteArray) ++ (Hd.nm i).extract 1 (Hd.nm i).size ++ (⟨#[62]⟩ : ByteArray) ++ T ++ (⟨#[60]⟩ : ByteArray) = ⟨(Hd.held i s t).toArray⟩ := by
    rw [Hd.rest i hi, hS, hT]
    apply ByteArray.ext
    simp [ByteArray.data_append, Hd.held, Hd.mid, Hd.nm, hj]
  have zi := Hd.size i hi
  have zj := Hd.size j (by omega)
  have zr : ((Hd.nm i).extract 1 (Hd.nm i).size).size ≤ 8 := by rw [ByteArray.size_extract]; omega
  have zS : S.size ≤ 300 := by rw [hS]; show (List.toArray s).size ≤ _; simpa using ns
  have zT : T.size ≤ 300 := by rw [hT]; show (List.toArray t).size ≤ _; simpa using nt
  have l5 : (⟨#[60, 112, 62, 60, 47]⟩ : ByteArray).size = 5 := rfl
  have l3 : (⟨#[62, 60, 47]⟩ : ByteArray).size = 3 := rfl
  have l1 : (⟨#[62]⟩ : ByteArray).size = 1 := rfl
  have l1' : (⟨#[60]⟩ : ByteArray).size = 1 := rfl
  have l2 : (⟨#[60, 47]⟩ : ByteArray).size = 2 := rfl
  have l4 : (⟨#[32, 120, 62, 121]⟩ : ByteArray).size = 4 := rfl
  refine ⟨_, _, _, _, _, _, _, _, _, _, _, _, _, rfl, rfl, rfl, rfl, rfl, rfl, rfl, rfl, rfl, rfl, rfl, rfl, rfl, ?_, ?_, ?_, ?_, ?_, ?_, ?_, ?_, ?_, ?_, ?_, ?_, ?_, ?_⟩
  case refine_14 =>
    rw [e7, ← h]
    congr 1
    apply ByteArray.ext
    simp [ByteArray.data_append, Hd.nm]
  all_goals (simp only [ByteArray.size_append]; omega)
set_option maxRecDepth 100000 in
set_option maxHeartbeats 8000000 in
theorem Law.tokenHeld (n : Int) (s t : ByteArray) (m : Int) (w : World) (hm : w.cell? ⟨0, 0, none⟩ = some (.int .i64 m)) (_hn : -9223372036854775808 ≤ n ∧ n ≤ 9223372036854775807) (_hs : s.size ≤ reachBytes) (_ht : t.size ≤ reachBytes) :
    Calls Tryd.prog 4 #[.int .i64 n, .string s, .string t] w fun e w' => e = .returned (.bool true) ∧ Below w.heap.size w w' := by
  obtain ⟨u, i, j, hu, hu2, hui, hi, hij, hj, hjj⟩ := Hd.which n
  have haw := Aw.awake m w hm
  have HM := Lib.hid hm
  clear hm _hs _ht
  go_enter Tryd.func4, Tryd.ntmps4
  go_wp2_with (first | (go_at_call 6; refine haw.mono ?_; rintro e w1 ⟨rfl, q1⟩; clear haw))
  have hs1 := Hd.quietAs s
  have ht1 := Hd.quietAs t
  obtain ⟨A1, A2, A3, A4, A5, A6, A7, B1, B2, B3, B4, B5, B6, a1, a2, a3, a4, a5, a6, a7, b1, b2, b3, b4, b5, b6, y1, y2, y3, y4, y5, y6, y7, x1, x2, x3, x4, x5, x6, hTok⟩ := Hd.page i j hi hjj _ _ (Hd.clean s.data.toList) (Hd.clean t.data.toList) (Nat.le_trans (List.length_filter_le _ _) (by rw [List.length_take]; omega)) (Nat.le_trans (List.length_filter_le _ _) (by rw [List.length_take]; omega)) _ _ rfl rfl
  have ca := Hd.cell i hi w1
  have cb := Hd.cell j hj w1
  have zi := Hd.size i hi
  have zj := Hd.size j hj
  have hcut := fun u => Rr.run_from u (Hd.nm i) 1 (by omega) (by omega)
  rw [show (1 : Int).toNat = 1 from rfl] at hcut
  have HT := Lib.hid hTok
  have HB1 : Hid (Below w.heap.size w (w1.alloc (.cells #[.string ⟨#[115, 99, 114, 105, 112, 116]⟩, .string ⟨#[115, 116, 121, 108, 101]⟩, .string ⟨#[116, 105, 116, 108, 101]⟩, .string ⟨#[116, 101, 120, 116, 97, 114, 101, 97]⟩] 9))) := Lib.hid (q1.alloc q1.size _)
  generalize w1.alloc (.cells #[.string ⟨#[115, 99, 114, 105, 112, 116]⟩, .string ⟨#[115, 116, 121, 108, 101]⟩, .string ⟨#[116, 105, 116, 108, 101]⟩, .string ⟨#[116, 101, 120, 116, 97, 114, 101, 97]⟩] 9) = W at *
  generalize w1.heap.size = g at *
  have zs : (⟨(Qt.quiet 0 s.data.toList).toArray⟩ : ByteArray).size ≤ 300 := by show (List.toArray _).size ≤ _; simp; exact Nat.le_trans (List.length_filter_le _ _) (by rw [List.length_take]; omega)
  have zt : (⟨(Qt.quiet 0 t.data.toList).toArray⟩ : ByteArray).size ≤ 300 := by show (List.toArray _).size ≤ _; simp; exact Nat.le_trans (List.length_filter_le _ _) (by rw [List.length_take]; omega)
  generalize (⟨(Qt.quiet 0 s.data.toList).toArray⟩ : ByteArray) = S at *
  generalize (⟨(Qt.quiet 0 t.data.toList).toArray⟩ : ByteArray) = T at *
  have zr : ((Hd.nm i).extract 1 (Hd.nm i).size).size ≤ 8 := by rw [ByteArray.size_extract]; omega
  generalize (Hd.nm i).extract 1 (Hd.nm i).size = R at *
  generalize Hd.nm i = I at *
  generalize Hd.nm j = J at *
  clear hTok hjj q1
  go_quiet (first | (go_at_call_of 9 s; exact Calls.quiet_of_same (hs1 _)) | (go_at_call_of 9 t; exact Calls.quiet_of_same (ht1 _)))
  have ca2 : (W.drewN nq).cell? ⟨g, i, none⟩ = some (.string I) := ca
  have HB2 : Hid (Below w.heap.size w (W.drewN nq)) := Lib.hid (Sa.drews HB1.out nq)
  have hT := fun V hb => Tk.short B6 m V (by omega) (Tp.keep hb HM.out : World.cell? V _ = _)
  rw [HT.out] at hT
  generalize W.drewN nq = W2 at *
  clear hs1 ht1 hcut HB1 HT HM ca cb a1 a2 a3 a4 a5 a6 a7 y1 y2 y3 y4 y5 y6 zr zs zt zj
  go_wp2_with fail
  go_region_held (fun u => u.cell? ⟨g, i, none⟩ = some (.string I)) (go_keep) (first | (go_at_call 7; refine (hT _ (Sa.drews HB2.out 1)).mono ?_; rintro e w2 ⟨v2, rfl, hl2, hb2⟩; have cc := Tp.keep hb2 ca2; have HL2 := Lib.hid hl2; have HB3 := Lib.hid ((Sa.drews HB2.out 1).trans (hb2.mono HB2.out.size)); clear hT hl2 hb2))
  all_goals
    clear ca2 HB2
    go_wp2_with fail
    go_region_held (fun u => u.cell? ⟨g, i, none⟩ = some (.string I)) (go_keep) (fail)
    go_wp2_with (first | (go_at_call 8; refine (Aw.num _ _).mono ?_; rintro e w' ⟨rfl, hw⟩; have hw := hw.symm; subst hw))
    refine (Hd.same w2 _ _ _ _ HL2.out).mono ?_
    rintro e w3 ⟨rfl, hc3⟩
    have HC3 := Lib.hid hc3
    clear hc3 HL2
    go_wp2
    go_ret
    exact ⟨rfl, HB3.out.trans (HC3.out.mono HB3.out.size)⟩
end Go.Proofs.YtjbkgokiikbaeaaDoor

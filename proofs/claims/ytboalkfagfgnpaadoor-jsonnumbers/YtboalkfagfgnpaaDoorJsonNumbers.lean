/-
  THE WALK of stolelaw10.JsonNumbers: it returns true.
-/
import Derived.Test.YtboalkfagfgnpaaDoorJQuiet
import Derived.Test.YtboalkfagfgnpaaDoorReDec
namespace Go.Proofs.YtboalkfagfgnpaaDoor
open Go.RowKit
theorem Jk.zero : Js.got (⟨#[45, 48]⟩ : ByteArray).data.toList = Js.leaf 3 0 9223372036854775808 ⟨#[]⟩ ∧ Js.gerr (⟨#[45, 48]⟩ : ByteArray).data.toList = 0 := ⟨by kernel_rfl, by kernel_rfl⟩
theorem Jk.all {T : ByteArray} {k : Int} (h1 : -9007199254740991 ≤ k) (h2 : k ≤ 9007199254740991) (hT : T.data.toList = Lib.itoa k) :
    (⟨(Js.said (Js.leaf 2 k 0 ⟨#[]⟩)).toArray⟩ : ByteArray) = T ∧ Js.err (Js.leaf 2 k 0 ⟨#[]⟩) = 0 ∧ Js.got (⟨#[32]⟩ ++ T ++ ⟨#[10]⟩ : ByteArray).data.toList = Js.leaf 2 k 0 ⟨#[]⟩ ∧ Js.gerr (⟨#[32]⟩ ++ T ++ ⟨#[10]⟩ : ByteArray).data.toList = 0 ∧ T.size ≤ 21 := by
  have hs := Jk.said h1 h2
  have hg := Jk.get h1 h2
  have e : (⟨#[32]⟩ ++ T ++ ⟨#[10]⟩ : ByteArray).data.toList = 32 :: (Lib.itoa k ++ [10]) := by
    rw [ByteArray.data_append, ByteArray.data_append, Array.toList_append, Array.toList_append, hT]
    rfl
  refine ⟨?_, hs.2, ?_, ?_, ?_⟩
  · rw [hs.1, ← hT]
  · unfold Js.got
    rw [e, hg]
    rfl
  · unfold Js.gerr
    rw [e, hg]
    rfl
  · have := Jk.len h1 h2
    rw [← hT] at this
    exact this
theorem Jk.same {k x : Int} {b : Nat} {s : ByteArray} {v v' : Value} (h : ∀ w R, (Js.leaf k x b s).Lies w R v) (h' : ∀ w R, (Js.leaf k x b s).Lies w R v') (u : World) :
    Calls Tryd.prog 13 #[v, v'] u fun e w' => e = .returned (.bool true) ∧ Below u.heap.size u w' := by
  have := Vs.same _ _ v v' u (h u _) (h' u _)
  rw [Jl.leaf_eq] at this
  exact this
structure Jk.S (w W : World) (g h : Nat) (v0 v1 v2 v3 v4 v5 u0 u1 u2 u3 u4 u5 : Value) : Prop where
  low : Below w.heap.size w W
  box : Vm.Box W g v0 v1 v2 v3 v4 v5
  boz : Vm.Box W h u0 u1 u2 u3 u4 u5
theorem Jk.S.on {w W W' : World} {g h : Nat} {v0 v1 v2 v3 v4 v5 u0 u1 u2 u3 u4 u5 : Value} (s : Jk.S w W g h v0 v1 v2 v3 v4 v5 u0 u1 u2 u3 u4 u5) (hb : Below W.heap.size W W') : Jk.S w W' g h v0 v1 v2 v3 v4 v5 u0 u1 u2 u3 u4 u5 :=
  ⟨s.low.trans (hb.mono s.low.size), ⟨(hb.block g s.box.lt).trans s.box.all⟩, ⟨(hb.block h s.boz.lt).trans s.boz.all⟩⟩
set_option maxRecDepth 100000 in
set_option maxHeartbeats 4000000 in
theorem Law.jsonNumbers (x : Int) (neg : Bool) (w : World) (hT : Jt w) : Calls Tryd.prog 4 #[.int .i64 x, .bool neg] w fun e w' => e = .returned (.bool true) ∧ Below w.heap.size w w' := by
  have aw := Ja.awake w hT
  obtain ⟨k0, hk0, hk⟩ : ∃ k0 : Nat, bits .and .i64 x 9007199254740991 = (k0 : Int) ∧ k0 ≤ 9007199254740991 := by
    have h1 := Bt.and53 x
    exact ⟨(x % 9007199254740992).toNat, by omega, by omega⟩
  have dc := fun u => Dm.decimal k0 (by omega) u
  obtain ⟨D, hD⟩ : ∃ D : ByteArray, D = ⟨(Lib.decDigits k0).toArray⟩ := ⟨_, rfl⟩
  have hDl : D.data.toList = Lib.decDigits k0 := by rw [hD]
  rw [← hD] at dc
  clear hD
  have hDs : D.size ≤ 20 := by
    have := Rt.dec_le k0 (by omega)
    rw [← hDl] at this
    exact this
  obtain ⟨T, K, hcase, hK1, hK2, hTK⟩ : ∃ (T : ByteArray) (K : Int), ((neg = true ∧ 0 < k0 ∧ T = ⟨#[45]⟩ ++ D ∧ K = -(k0 : Int)) ∨ ((neg = false ∨ k0 = 0) ∧ T = D ∧ K = (k0 : Int))) ∧ -9007199254740991 ≤ K ∧ K ≤ 9007199254740991 ∧ T.data.toList = Lib.itoa K := by
    by_cases h : neg = true ∧ 0 < k0
    · refine ⟨⟨#[45]⟩ ++ D, -(k0 : Int), .inl ⟨h.1, h.2, rfl, rfl⟩, by omega, by omega, ?_⟩
      rw [ByteArray.data_append, Array.toList_append, hDl]
      unfold Lib.itoa
      rw [if_pos (by omega), show (-(k0 : Int)).natAbs = k0 by omega]
      rfl
    · refine ⟨D, (k0 : Int), .inr ⟨?_, rfl, rfl⟩, by omega, by omega, ?_⟩
      · cases neg
        · exact .inl rfl
        · exact .inr (by have : ¬ 0 < k0 := fun q => h ⟨rfl, q⟩; omega)
      · rw [hDl]
        unfold Lib.itoa
        rw [if_neg (by omega), Int.toNat_natCast]
  obtain ⟨p1, p2, p3, p4, p5⟩ := Jk.all hK1 hK2 hTK
  have pt := fun v u hu hl => Jc.put_to p1 p2 v u hu hl
  have gt := fun u hu => Jc.get_to p3 p4 u hu
  have gz := fun u hu => Jc.get_to Jk.zero.1 Jk.zero.2 u hu
  clear p1 p2 p3 p4 hTK hDl
  have m1 : ¬ 9223372036854775807 < 1 + D.size := by omega
  have m2 : ¬ 9223372036854775807 < 1 + T.size := by omega
  have m3 : (⟨#[32]⟩ ++ T : ByteArray).size = 1 + T.size := by
    show (⟨#[32]⟩ ++ T : ByteArray).data.size = _
    rw [ByteArray.data_append, Array.size_append]
    rfl
  have m4 : ¬ 9223372036854775807 < 1 + T.size + 1 := by omega
  have hcs : (neg = true ∧ 0 < k0 ∧ T = ⟨#[45]⟩ ++ D ∧ K = -(k0 : Int)) ∨ (neg = false ∧ T = D ∧ K = (k0 : Int)) ∨ (neg = true ∧ ¬ 0 < k0 ∧ T = D ∧ K = (k0 : Int)) := by
    rcases hcase with h | ⟨h | h, h2⟩
    · exact .inl h
    · exact .inr (.inl ⟨h, h2⟩)
    · cases neg
      · exact .inr (.inl ⟨rfl, h2⟩)
      · exact .inr (.inr ⟨rfl, by omega, h2⟩)
  clear hcase
  have n1 := fun x u => Jn.num x u
  rcases hcs with ⟨rfl, h0, rfl, rfl⟩ | ⟨rfl, rfl, rfl⟩ | ⟨rfl, h0, rfl, rfl⟩
  all_goals
    go_enter Tryd.func4, Tryd.ntmps4
    go_wp2_with (first | (go_at_call 7; refine aw.mono ?_; rintro e w1 ⟨rfl, b1⟩; have B1 := Lib.hid b1; clear b1 aw) | (go_at_call 10; refine (dc _).mono ?_; rintro e w2 ⟨rfl, b2⟩; have B2 := Lib.hid (Wk.below_step B1.out b2); clear b2 dc B1))
    refine (n1 _ _).mono ?_
    rintro e w3 ⟨rfl, b3⟩
    have B3 := Lib.hid (Wk.below_step B2.out b3)
    clear b3 B2
    go_wp2_with fail
    refine (pt _ _ (hT.on B3.out) (Vt.leaf_lies 2 _ 0 ⟨#[]⟩ (by decide) _ _)).mono ?_
    rintro e w4 ⟨rfl, b4⟩
    have B4 := Lib.hid (Wk.below_step B3.out b4)
    clear b4 B3 pt
    go_wp2_with fail
    refine (gt _ (hT.on B4.out)).mono ?_
    rintro e w5 ⟨v5, rfl, l5, b5⟩
    have HL5 := Lib.hid (fun u R => Jl.leaf l5 u R)
    obtain ⟨ai, c, ak, d, rfl, _⟩ := l5
    have B5 := Lib.hid (Wk.below_step B4.out b5)
    clear b5 B4 gt
    go_wp2_with fail
    refine (gz _ (hT.on (Jl.below B5.out _))).mono ?_
    rintro e w6 ⟨v6, rfl, l6, b6⟩
    have HL6 := Lib.hid (fun u R => Jl.leaf l6 u R)
    obtain ⟨ai6, c6, ak6, d6, rfl, _⟩ := l6
    have S7 : Hid (Jk.S w (w6.alloc (.cells #[.int .i64 3, .int .i64 0, .int .u64 9223372036854775808, .string ⟨#[]⟩, .slice ai6 0 c6, .slice ak6 0 d6] 27)) w5.heap.size w6.heap.size _ _ _ _ _ _ _ _ _ _ _ _) :=
      ⟨Jl.below (Wk.below_step (Jl.below B5.out _) b6) _, ⟨(Below.heap_alloc _ _ _ (Nat.lt_of_lt_of_le (by simp) b6.size)).trans ((b6.block w5.heap.size (by simp)).trans (Vm.new _ _))⟩, ⟨Vm.new _ _⟩⟩
    clear b6 B5 gz
    go_wp2_with fail
    generalize w6.alloc (.cells #[.int .i64 3, .int .i64 0, .int .u64 9223372036854775808, .string ⟨#[]⟩, .slice ai6 0 c6, .slice ak6 0 d6] 27) = L at *
    generalize w5.heap.size = g5 at *
    generalize w6.heap.size = g6 at *
    have ne := Jq.ne L
    have q0 := fun q => (Jq.cells S7.out.box q).1
    have q1 := fun q => (Jq.cells S7.out.box q).2.1
    have q2 := fun q => (Jq.cells S7.out.box q).2.2.1
    have q3 := fun q => (Jq.cells S7.out.box q).2.2.2.1
    have q4 := fun q => (Jq.cells S7.out.box q).2.2.2.2.1
    have q5 := fun q => (Jq.cells S7.out.box q).2.2.2.2.2
    have r0 := fun q => (Jq.cells S7.out.boz q).1
    have r1 := fun q => (Jq.cells S7.out.boz q).2.1
    have r2 := fun q => (Jq.cells S7.out.boz q).2.2.1
    have r3 := fun q => (Jq.cells S7.out.boz q).2.2.2.1
    have r4 := fun q => (Jq.cells S7.out.boz q).2.2.2.2.1
    have r5 := fun q => (Jq.cells S7.out.boz q).2.2.2.2.2
    have c1 := fun q : Jq.Wd L => Jq.call q (Jk.same HL5.out (fun w R => Vt.leaf_lies 2 _ 0 ⟨#[]⟩ (by decide) w R) q.1)
    have c2 := fun q : Jq.Wd L => Jq.call q (Jk.same HL6.out (fun w R => Vt.leaf_lies 3 0 9223372036854775808 ⟨#[]⟩ (by decide) w R) q.1)
    have c3 := fun (q : Jq.Wd L) x => Jq.call q (Jn.num x q.1)
    have c4 := fun (q : Jq.Wd L) x => Jq.call q (Jn.bits x q.1)
    have c5 := fun (q : Jq.Wd L) x => Jq.errno q x
    clear m1 m2 m3 m4 HL5 HL6 p5 hDs n1
    refine Jq.region (L := L) (by kernel_rfl) ?_
    iterate 22 (go_big_quiet_step (first | (go_at_call 9; exact c5 _ _) | (go_at_call 12; exact c3 _ _) | (go_at_call 14; exact c4 _ _) | (go_at_call 13; exact c1 _)))
    clear c1
    repeat (go_big_quiet_step (first | (go_at_call 9; exact c5 _ _) | (go_at_call 12; exact c3 _ _) | (go_at_call 14; exact c4 _ _) | (go_at_call 13; exact c2 _)))
    refine wpQuiet_nil ?_
    rintro _ ⟨q, rfl⟩
    go_wp2
    go_ret
    exact ⟨rfl, Wk.below_step S7.out.low q.2⟩
end Go.Proofs.YtboalkfagfgnpaaDoor

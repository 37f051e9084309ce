/-
  THE WALK of stolelaw10.awake.
-/
import Derived.Test.YtboalkfagfgnpaaGreatDoorCJAgaintoJSaid
import Derived.Test.YtboalkfagfgnpaaGreatDoorCVAwaketoVCopyT
import Derived.Test.YtboalkfagfgnpaaGreatDoorCJMay1toJEp
import Derived.Test.YtboalkfagfgnpaaGreatDoorCJWutoJWv
import Derived.Test.YtboalkfagfgnpaaGreatDoorCVSame
import Derived.Test.YtboalkfagfgnpaaGreatDoorCRToktoQPlain
import Derived.Test.YtboalkfagfgnpaaGreatDoorCJBacktoJEscR
import Derived.Test.YtboalkfagfgnpaaGreatDoorCJRgtoJRj
namespace Go.Proofs.YtboalkfagfgnpaaGreatDoor
open Go.RowKit
theorem Jn.num (x : Int) (w : World) : Calls Tryz.prog 26 #[.int .i64 x] w fun e w' => e = .returned (.agg #[.int .i64 2, .int .i64 x, .int .u64 0, .string ⟨#[]⟩, .slice none 0 0, .slice none 0 0]) ∧ Below w.heap.size w w' := by
  go_enter Tryz.func26, Tryz.ntmps26
  go_wp2
  refine bodyPost_ret (v := .agg #[.int .i64 2, .int .i64 x, .int .u64 0, .string ⟨#[]⟩, .slice none 0 0, .slice none 0 0]) (by simp [results, Tryz.results26, go_sem]) rfl ?_
  exact ⟨rfl, (Below.refl _ _).alloc (Nat.le_refl _) _⟩
theorem Jn.text (s : ByteArray) (w : World) : Calls Tryz.prog 27 #[.string s] w fun e w' => e = .returned (.agg #[.int .i64 4, .int .i64 0, .int .u64 0, .string s, .slice none 0 0, .slice none 0 0]) ∧ Below w.heap.size w w' := by
  go_enter Tryz.func27, Tryz.ntmps27
  go_wp2
  refine bodyPost_ret (v := .agg #[.int .i64 4, .int .i64 0, .int .u64 0, .string s, .slice none 0 0, .slice none 0 0]) (by simp [results, Tryz.results27, go_sem]) rfl ?_
  exact ⟨rfl, (Below.refl _ _).alloc (Nat.le_refl _) _⟩
theorem Jn.bits (x : Int) (w : World) : Calls Tryz.prog 28 #[.int .u64 x] w fun e w' => e = .returned (.agg #[.int .i64 3, .int .i64 0, .int .u64 x, .string ⟨#[]⟩, .slice none 0 0, .slice none 0 0]) ∧ Below w.heap.size w w' := by
  go_enter Tryz.func28, Tryz.ntmps28
  go_wp2
  refine bodyPost_ret (v := .agg #[.int .i64 3, .int .i64 0, .int .u64 x, .string ⟨#[]⟩, .slice none 0 0, .slice none 0 0]) (by simp [results, Tryz.results28, go_sem]) rfl ?_
  exact ⟨rfl, (Below.refl _ _).alloc (Nat.le_refl _) _⟩
theorem Jc.get_to {s : ByteArray} {t : Vt} {x : Int} (h1 : Js.got s.data.toList = t) (h2 : Js.gerr s.data.toList = x) (w : World) (hT : Jt w) :
    Calls Tryz.prog 8 #[.string s] w fun e w' => ∃ v, e = .returned (.tuple #[v, .int .i64 x]) ∧ t.Lies w' (fun g => w.heap.size ≤ g ∧ g < w'.heap.size) v ∧ Below w.heap.size w w' := by
  subst h1
  subst h2
  exact Jc.get s w hT
theorem Jc.put_to {t : Vt} {s : ByteArray} {x : Int} (h1 : (⟨(Js.said t).toArray⟩ : ByteArray) = s) (h2 : Js.err t = x) (v : Value) (w : World) (hT : Jt w) (hl : t.Lies w (· < w.heap.size) v) :
    Calls Tryz.prog 6 #[v] w fun e w' => e = .returned (.tuple #[.string s, .int .i64 x]) ∧ Below w.heap.size w w' := by
  subst h1
  subst h2
  exact Jc.put t v w hT hl
/-- a list, a record over blocks -/
theorem Jl.list {W : World} {R : Nat → Prop} {L : List Vt} {ci : Array Value} {gi : Nat} (hi : Vm.Has W gi (.cells ci 26)) (ri : R gi) (hL : L.length ≤ 1000)
    (hci : ∀ i, i < L.length → ∃ u0 u1 u2 u3 u4 u5, ci[i * 6]? = some u0 ∧ ci[i * 6 + 1]? = some u1 ∧ ci[i * 6 + 2]? = some u2 ∧ ci[i * 6 + 3]? = some u3 ∧ ci[i * 6 + 4]? = some u4 ∧ ci[i * 6 + 5]? = some u5 ∧ (L.getD i .nil).Lies W R (.agg #[u0, u1, u2, u3, u4, u5])) :
    (Js.node 5 [] L).Lies W R (.agg #[.int .i64 5, .int .i64 0, .int .u64 0, .string ⟨#[]⟩, .slice (some ⟨gi, 0, none⟩) L.length L.length, .slice none 0 0]) := by
  refine ⟨_, _, _, _, rfl, by decide, Nat.le_refl _, by unfold maxLen; omega, ⟨Nat.le_refl _, by decide, fun j hj => absurd hj (by simp)⟩, fun i hin => ?_⟩
  obtain ⟨u0, u1, u2, u3, u4, u5, c0, c1, c2, c3, c4, c5, hl⟩ := hci i hin
  refine ⟨gi, 0, u0, u1, u2, u3, u4, u5, rfl, ri, ?_, ?_, ?_, ?_, ?_, ?_, hl⟩
  all_goals rw [Nat.zero_add]
  · exact hi.cell _ c0
  · exact hi.cell _ c1
  · exact hi.cell _ c2
  · exact hi.cell _ c3
  · exact hi.cell _ c4
  · exact hi.cell _ c5
theorem Jl.rec {W : World} {R : Nat → Prop} {ks : List ByteArray} {L : List Vt} {ck ci : Array Value} {gk gi : Nat} (hk : Vm.Has W gk (.cells ck 9)) (rk : R gk) (hi : Vm.Has W gi (.cells ci 26)) (ri : R gi) (hL : L.length ≤ 1000) (hK : ks.length ≤ 1000) (hck : ∀ j, j < ks.length → ck[j]? = some (.string (ks.getD j ⟨#[]⟩)))
    (hci : ∀ i, i < L.length → ∃ u0 u1 u2 u3 u4 u5, ci[i * 6]? = some u0 ∧ ci[i * 6 + 1]? = some u1 ∧ ci[i * 6 + 2]? = some u2 ∧ ci[i * 6 + 3]? = some u3 ∧ ci[i * 6 + 4]? = some u4 ∧ ci[i * 6 + 5]? = some u5 ∧ (L.getD i .nil).Lies W R (.agg #[u0, u1, u2, u3, u4, u5])) :
    (Js.node 6 ks L).Lies W R (.agg #[.int .i64 6, .int .i64 0, .int .u64 0, .string ⟨#[]⟩, .slice (some ⟨gi, 0, none⟩) L.length L.length, .slice (some ⟨gk, 0, none⟩) ks.length ks.length]) := by
  refine ⟨_, _, _, _, rfl, by decide, Nat.le_refl _, by unfold maxLen; omega, ⟨Nat.le_refl _, by unfold maxLen; omega, fun j hj => ⟨gk, 0, rfl, rk, by rw [Nat.zero_add]; exact hk.cell _ (hck j hj)⟩⟩, fun i hin => ?_⟩
  obtain ⟨u0, u1, u2, u3, u4, u5, c0, c1, c2, c3, c4, c5, hl⟩ := hci i hin
  refine ⟨gi, 0, u0, u1, u2, u3, u4, u5, rfl, ri, ?_, ?_, ?_, ?_, ?_, ?_, hl⟩
  all_goals rw [Nat.zero_add]
  · exact hi.cell _ c0
  · exact hi.cell _ c1
  · exact hi.cell _ c2
  · exact hi.cell _ c3
  · exact hi.cell _ c4
  · exact hi.cell _ c5
def Js.r1 : Vt := Js.node 6 [⟨#[97]⟩, ⟨#[98]⟩] [Js.leaf 2 (-5) 0 ⟨#[]⟩, Js.node 5 [] [Js.leaf 4 0 0 ⟨#[60, 39, 226, 128, 168]⟩, Js.leaf 3 0 9223372036854775808 ⟨#[]⟩, Js.leaf 1 0 0 ⟨#[]⟩]]
def Js.s1 : ByteArray := ⟨#[123, 34, 97, 34, 58, 45, 53, 44, 34, 98, 34, 58, 91, 34, 92, 117, 48, 48, 51, 99, 92, 117, 48, 48, 50, 55, 92, 117, 50, 48, 50, 56, 34, 44, 45, 48, 44, 102, 97, 108, 115, 101, 93, 125]⟩
theorem Js.p1 : (⟨(Js.said Js.r1).toArray⟩ : ByteArray) = Js.s1 ∧ Js.err Js.r1 = 0 := ⟨by kernel_rfl, by kernel_rfl⟩
theorem Js.s1_is : (Js.s1.toList == [123, 34, 97, 34, 58, 45, 53, 44, 34, 98, 34, 58, 91, 34, 92, 117, 48, 48, 51, 99, 92, 117, 48, 48, 50, 55, 92, 117, 50, 48, 50, 56, 34, 44, 45, 48, 44, 102, 97, 108, 115, 101, 93, 125]) = true := by
  rw [ByteArray.toList_eq]
  decide +kernel
theorem Js.p2 : Js.err (Js.leaf 2 9007199254740992 0 ⟨#[]⟩) = 1000 := by kernel_rfl
theorem Js.e1 : Js.gerr Js.l1 = 0 ∧ Js.got Js.l1 = Js.w1 := ⟨by kernel_rfl, by unfold Js.got; rw [Js.g1]; rfl⟩
theorem Js.e2 : Js.gerr [123, 34, 98, 34, 58, 49, 44, 34, 97, 34, 58, 50, 125] = 1000 := by kernel_rfl
theorem Js.e3 : Js.gerr [48, 49] = 1000 := by kernel_rfl
theorem Js.same1 : Js.w1.eq Js.w1 = true := by kernel_rfl
theorem Ja.lies1 {W : World} {gk g1 g2 : Nat} (hk : Vm.Has W gk (.cells #[.string ⟨#[97]⟩, .string ⟨#[98]⟩] 9))
    (h1 : Vm.Has W g1 (.cells #[.int .i64 4, .int .i64 0, .int .u64 0, .string ⟨#[60, 39, 226, 128, 168]⟩, .slice none 0 0, .slice none 0 0, .int .i64 3, .int .i64 0, .int .u64 9223372036854775808, .string ⟨#[]⟩, .slice none 0 0, .slice none 0 0, .int .i64 1, .int .i64 0, .int .u64 0, .string ⟨#[]⟩, .slice none 0 0, .slice none 0 0] 26))
    (h2 : Vm.Has W g2 (.cells #[.int .i64 2, .int .i64 (-5), .int .u64 0, .string ⟨#[]⟩, .slice none 0 0, .slice none 0 0, .int .i64 5, .int .i64 0, .int .u64 0, .string ⟨#[]⟩, .slice (some ⟨g1, 0, none⟩) 3 3, .slice none 0 0] 26)) :
    Js.r1.Lies W (· < W.heap.size) (.agg #[.int .i64 6, .int .i64 0, .int .u64 0, .string ⟨#[]⟩, .slice (some ⟨g2, 0, none⟩) 2 2, .slice (some ⟨gk, 0, none⟩) 2 2]) := by
  refine Jl.rec (ks := [⟨#[97]⟩, ⟨#[98]⟩]) (L := [_, _]) hk hk.lt h2 h2.lt (by decide) (by decide) (fun j hj => ?_) (fun i hi => ?_)
  · match j, hj with
    | 0, _ => rfl
    | 1, _ => rfl
  · match i, hi with
    | 0, _ => exact ⟨_, _, _, _, _, _, rfl, rfl, rfl, rfl, rfl, rfl, Vt.leaf_lies 2 (-5) 0 ⟨#[]⟩ (by decide) W _⟩
    | 1, _ =>
      refine ⟨_, _, _, _, _, _, rfl, rfl, rfl, rfl, rfl, rfl, ?_⟩
      refine Jl.list (L := [_, _, _]) h1 h1.lt (by decide) (fun i hi => ?_)
      match i, hi with
      | 0, _ => exact ⟨_, _, _, _, _, _, rfl, rfl, rfl, rfl, rfl, rfl, Vt.leaf_lies 4 0 0 ⟨#[60, 39, 226, 128, 168]⟩ (by decide) W _⟩
      | 1, _ => exact ⟨_, _, _, _, _, _, rfl, rfl, rfl, rfl, rfl, rfl, Vt.leaf_lies 3 0 9223372036854775808 ⟨#[]⟩ (by decide) W _⟩
      | 2, _ => exact ⟨_, _, _, _, _, _, rfl, rfl, rfl, rfl, rfl, rfl, Vt.leaf_lies 1 0 0 ⟨#[]⟩ (by decide) W _⟩
theorem Ja.lies2 {W : World} {gk g1 g2 : Nat} (hk : Vm.Has W gk (.cells #[.string ⟨#[97]⟩] 9))
    (h1 : Vm.Has W g1 (.cells #[.int .i64 2, .int .i64 1, .int .u64 0, .string ⟨#[]⟩, .slice none 0 0, .slice none 0 0, .int .i64 4, .int .i64 0, .int .u64 0, .string ⟨#[240, 159, 152, 128, 10]⟩, .slice none 0 0, .slice none 0 0, .int .i64 3, .int .i64 0, .int .u64 9223372036854775808, .string ⟨#[]⟩, .slice none 0 0, .slice none 0 0, .int .i64 0, .int .i64 0, .int .u64 0, .string ⟨#[]⟩, .slice none 0 0, .slice none 0 0] 26))
    (h2 : Vm.Has W g2 (.cells #[.int .i64 5, .int .i64 0, .int .u64 0, .string ⟨#[]⟩, .slice (some ⟨g1, 0, none⟩) 4 4, .slice none 0 0] 26)) :
    Js.w1.Lies W (· < W.heap.size) (.agg #[.int .i64 6, .int .i64 0, .int .u64 0, .string ⟨#[]⟩, .slice (some ⟨g2, 0, none⟩) 1 1, .slice (some ⟨gk, 0, none⟩) 1 1]) := by
  refine Jl.rec (ks := [⟨#[97]⟩]) (L := [_]) hk hk.lt h2 h2.lt (by decide) (by decide) (fun j hj => ?_) (fun i hi => ?_)
  · match j, hj with
    | 0, _ => rfl
  · match i, hi with
    | 0, _ =>
      refine ⟨_, _, _, _, _, _, rfl, rfl, rfl, rfl, rfl, rfl, ?_⟩
      refine Jl.list (L := [_, _, _, _]) h1 h1.lt (by decide) (fun i hi => ?_)
      match i, hi with
      | 0, _ => exact ⟨_, _, _, _, _, _, rfl, rfl, rfl, rfl, rfl, rfl, Vt.leaf_lies 2 1 0 ⟨#[]⟩ (by decide) W _⟩
      | 1, _ => exact ⟨_, _, _, _, _, _, rfl, rfl, rfl, rfl, rfl, rfl, Vt.leaf_lies 4 0 0 ⟨#[240, 159, 152, 128, 10]⟩ (by decide) W _⟩
      | 2, _ => exact ⟨_, _, _, _, _, _, rfl, rfl, rfl, rfl, rfl, rfl, Vt.leaf_lies 3 0 9223372036854775808 ⟨#[]⟩ (by decide) W _⟩
      | 3, _ => exact ⟨_, _, _, _, _, _, rfl, rfl, rfl, rfl, rfl, rfl, Vt.leaf_lies 0 0 0 ⟨#[]⟩ (by decide) W _⟩
theorem Jl.below {w W : World} (h : Below w.heap.size w W) (o : Obj) : Below w.heap.size w (W.alloc o) := h.alloc h.size o
/-- how things stand behind the first Get -/
structure Ja.S (w W : World) (g : Nat) (v0 v1 v2 v3 v4 v5 : Value) : Prop where
  low : Below w.heap.size w W
  tab : Jt W
  box : Vm.Box W g v0 v1 v2 v3 v4 v5
  lies : Js.w1.Lies W (· < W.heap.size) (.agg #[v0, v1, v2, v3, v4, v5])
theorem Ja.S.on {w W W' : World} {g : Nat} {v0 v1 v2 v3 v4 v5 : Value} (h : Ja.S w W g v0 v1 v2 v3 v4 v5) (hb : Below W.heap.size W W') : Ja.S w W' g v0 v1 v2 v3 v4 v5 :=
  ⟨h.low.trans (hb.mono h.low.size), h.tab.on hb, ⟨(hb.block g h.box.lt).trans h.box.all⟩, (h.lies.below hb).le hb.size⟩
set_option maxRecDepth 100000 in
set_option maxHeartbeats 4000000 in
theorem Ja.awake (w : World) (hT : Jt w) : Calls Tryz.prog 12 #[] w fun e w' => e = .returned (.bool true) ∧ Below w.heap.size w w' := by
  have n1 := fun x u => Jn.num x u
  have n2 := fun s u => Jn.text s u
  have n3 := fun x u => Jn.bits x u
  go_enter Tryz.func12, Tryz.ntmps12
  go_wp2_with (first | (go_at_call 26; refine (n1 _ _).mono ?_; rintro e w1 ⟨rfl, b1⟩; have B1 := Lib.hid b1; clear b1 n1) | (go_at_call 27; refine (n2 _ _).mono ?_; rintro e w2 ⟨rfl, b2⟩; have B2 := Lib.hid b2; clear b2 n2) | (go_at_call 28; refine (n3 _ _).mono ?_; rintro e w3 ⟨rfl, b3⟩; have B3 := Lib.hid b3; clear b3 n3))
  have L3 := Lib.hid (Wk.below_step (Wk.below_step (Wk.below_step (Jl.below (Below.refl w.heap.size w) _) B1.out) B2.out) B3.out)
  have K3 := Lib.hid ((((Vm.Has.new w (.cells #[.string ⟨#[97]⟩, .string ⟨#[98]⟩] 9) _ rfl).on B1.out).on B2.out).on B3.out)
  clear B1 B2 B3
  refine (Jc.put_to Js.p1.1 Js.p1.2 _ _ (hT.on (Jl.below (Jl.below (Jl.below L3.out _) _) _)) (Ja.lies1 (K3.out.alloc _ |>.alloc _ |>.alloc _) ((Vm.Has.new w3 _ _ rfl).alloc _ |>.alloc _) ((Vm.Has.new _ _ (w3.heap.size + 1) (by simp)).alloc _))).mono ?_
  rintro e w4 ⟨rfl, b4⟩
  have L4 := Lib.hid (Wk.below_step (Jl.below (Jl.below (Jl.below L3.out _) _) _) b4)
  clear b4 L3 K3
  go_wp2_with fail
  refine (Jc.get_to Js.e1.2 Js.e1.1 _ (hT.on L4.out)).mono ?_
  rintro e w5 ⟨v5, rfl, l5, b5⟩
  obtain ⟨k, x, b, s, ai, n, c, ak, m, d, rfl⟩ := l5.form
  have S : Ja.S w (w5.alloc (.cells #[.int .i64 k, .int .i64 x, .int .u64 (b : Int), .string s, .slice ai n c, .slice ak m d] 26)) w5.heap.size (.int .i64 k) (.int .i64 x) (.int .u64 (b : Int)) (.string s) (.slice ai n c) (.slice ak m d) :=
    ⟨Jl.below (Wk.below_step L4.out b5) _, hT.on (Jl.below (Wk.below_step L4.out b5) _), ⟨Vm.new _ _⟩, l5.on fun g hg => ⟨by simp; omega, Below.heap_alloc _ _ _ hg.2⟩⟩
  have HS := Lib.hid S
  clear S l5 b5 L4
  go_wp2_with fail
  generalize w5.alloc (.cells #[.int .i64 k, .int .i64 x, .int .u64 (b : Int), .string s, .slice ai n c, .slice ak m d] 26) = W at *
  generalize w5.heap.size = g at *
  refine (Jc.get_to (t := Js.leaf 0 0 0 ⟨#[]⟩) (x := 1000) (by kernel_rfl) (by kernel_rfl) _ HS.out.tab).mono ?_
  rintro e w6 ⟨v6, rfl, l6, b6⟩
  obtain ⟨k6, x6, d6, s6, ai6, n6, c6, ak6, m6, e6, rfl⟩ := l6.form
  have HS := Lib.hid (HS.out.on b6)
  clear l6 b6
  go_wp2_with fail
  have HA := Lib.hid (fun o => HS.out.on (Jl.below (Below.refl w6.heap.size w6) o))
  clear HS
  refine (Jc.get_to (t := Js.leaf 0 0 0 ⟨#[]⟩) (x := 1000) (by kernel_rfl) (by kernel_rfl) _ (HA.out _).tab).mono ?_
  rintro e w7 ⟨v7, rfl, l7, b7⟩
  obtain ⟨k7, x7, d7, s7, ai7, n7, c7, ak7, m7, e7, rfl⟩ := l7.form
  have HS := Lib.hid ((HA.out _).on b7)
  clear l7 b7 HA
  go_wp2_with fail
  have HA := Lib.hid (fun o => HS.out.on (Jl.below (Below.refl w7.heap.size w7) o))
  clear HS
  refine (Jn.num 9007199254740992 _).mono ?_
  rintro e w8 ⟨rfl, b8⟩
  have HS := Lib.hid ((HA.out _).on b8)
  clear b8 HA
  go_wp2_with fail
  refine (Jc.put_to (t := Js.leaf 2 9007199254740992 0 ⟨#[]⟩) (s := ⟨#[]⟩) (x := 1000) (by kernel_rfl) (by kernel_rfl) _ _ HS.out.tab (Vt.leaf_lies 2 9007199254740992 0 ⟨#[]⟩ (by decide) _ _)).mono ?_
  rintro e w9 ⟨rfl, b9⟩
  have HS := Lib.hid (HS.out.on b9)
  clear b9
  have hs1 := Js.s1_is
  have n1 := fun x u => Jn.num x u
  have n2 := fun s u => Jn.text s u
  have n3 := fun x u => Jn.bits x u
  go_wp2_with (first | (go_at_call 26; refine (n1 _ _).mono ?_; rintro e wa ⟨rfl, ba⟩; have Ba := Lib.hid ba; clear ba n1) | (go_at_call 27; refine (n2 _ _).mono ?_; rintro e wb ⟨rfl, bb⟩; have Bb := Lib.hid bb; clear bb n2) | (go_at_call 28; refine (n3 _ _).mono ?_; rintro e wc ⟨rfl, bc⟩; have Bc := Lib.hid bc; clear bc n3))
  refine (Vn.errno _ _).mono ?_
  rintro e wd ⟨rfl, hw⟩
  have K9 := Lib.hid ((((Vm.Has.new w9 (.cells #[.string ⟨#[97]⟩] 9) _ rfl).on Ba.out).on Bb.out).on Bc.out)
  have HC := Lib.hid ((((HS.out.on (Jl.below (Below.refl _ _) _)).on Ba.out).on Bb.out).on Bc.out)
  have S9 : Hid (Ja.S w wd g (.int .i64 k) (.int .i64 x) (.int .u64 (b : Int)) (.string s) (.slice ai n c) (.slice ak m d)) := by
    unfold Hid
    rw [hw]
    exact ((HC.out.on (Jl.below (Below.refl _ _) _)).on (Jl.below (Below.refl _ _) _)).on (Jl.below (Below.refl _ _) _)
  have L9 : Hid (Js.w1.Lies wd (· < wd.heap.size) (.agg #[.int .i64 6, .int .i64 0, .int .u64 0, .string ⟨#[]⟩, .slice (some ⟨wc.heap.size + 1, 0, none⟩) 1 1, .slice (some ⟨w9.heap.size, 0, none⟩) 1 1])) := by
    unfold Hid
    rw [hw]
    exact Ja.lies2 (K9.out.alloc _ |>.alloc _ |>.alloc _) ((Vm.Has.new wc _ _ rfl).alloc _ |>.alloc _) ((Vm.Has.new _ _ (wc.heap.size + 1) (by simp)).alloc _)
  have B9 : Hid (Vm.Box wd (wc.heap.size + 1 + 1) (.int .i64 6) (.int .i64 0) (.int .u64 0) (.string ⟨#[]⟩) (.slice (some ⟨wc.heap.size + 1, 0, none⟩) 1 1) (.slice (some ⟨w9.heap.size, 0, none⟩) 1 1)) := by
    unfold Hid
    rw [hw]
    exact ⟨Vm.Has.new _ _ _ (by simp)⟩
  clear hw K9 HC HS Ba Bb Bc
  obtain ⟨q0, q1, q2, q3, q4, q5⟩ := S9.out.box.cells
  obtain ⟨r0, r1, r2, r3, r4, r5⟩ := B9.out.cells
  have sm := Vs.same Js.w1 Js.w1 _ _ wd S9.out.lies L9.out
  rw [Js.same1] at sm
  have er := fun x u => Vn.errno x u
  go_wp2_with (first | (go_at_call 10; refine (er _ _).mono ?_; rintro e w' ⟨rfl, hw⟩; have hw := hw.symm; subst hw) | (go_at_call 11; refine sm.mono ?_; rintro e we ⟨rfl, be⟩; have BE := Lib.hid be; clear be))
  go_ret
  exact ⟨rfl, Wk.below_step S9.out.low BE.out⟩
end Go.Proofs.YtboalkfagfgnpaaGreatDoor
/-
  PLAIN: a number, and what surrounds it.
-/
namespace Go.Proofs.YtboalkfagfgnpaaGreatDoor
open Go.RowKit
theorem Jk.may {k : Int} (h1 : -9007199254740991 ≤ k) (h2 : k ≤ 9007199254740991) : (Js.leaf 2 k 0 ⟨#[]⟩).may = true := by
  unfold Vt.may
  rw [Js.stand_leaf (by decide) (Js.formed2 h1 h2)]
theorem Jk.len {k : Int} (h1 : -9007199254740991 ≤ k) (h2 : k ≤ 9007199254740991) : (Lib.itoa k).length ≤ 21 := Rt.itoa_le k (by omega) (by omega)
theorem Jk.put (k : Int) : Js.put (Js.leaf 2 k 0 ⟨#[]⟩) = Lib.itoa k := rfl
theorem Jk.said {k : Int} (h1 : -9007199254740991 ≤ k) (h2 : k ≤ 9007199254740991) : Js.said (Js.leaf 2 k 0 ⟨#[]⟩) = Lib.itoa k ∧ Js.err (Js.leaf 2 k 0 ⟨#[]⟩) = 0 := by
  have hl := Jk.len h1 h2
  unfold Js.said Js.err
  rw [Jk.put, if_pos ⟨Jk.may h1 h2, by omega⟩, if_pos (Jk.may h1 h2), if_pos (by omega)]
  exact ⟨rfl, rfl⟩
theorem Jk.get {k : Int} (h1 : -9007199254740991 ≤ k) (h2 : k ≤ 9007199254740991) : Js.get (32 :: (Lib.itoa k ++ [10])) = some (Js.leaf 2 k 0 ⟨#[]⟩) := by
  have hl := Jk.len h1 h2
  have hv : Js.value 8 (32 :: (Lib.itoa k ++ [10])) = some (Js.leaf 2 k 0 ⟨#[]⟩, [10]) := by
    obtain ⟨c, t, e1, h⟩ := Js.itoa_head k
    have hn := Js.number_itoa k h1 h2 (r := [10]) rfl
    rw [Js.value]
    have hw : Js.ws (32 :: (Lib.itoa k ++ [10])) = Lib.itoa k ++ [10] := by
      have hb : Js.begins c = true := by
        unfold Js.begins
        rcases h with h | rfl
        · rw [h]; rfl
        · rfl
      rw [e1]
      show Js.ws (c :: (t ++ [10])) = _
      exact Js.ws_stay (Js.begins_facts c hb).1
    rw [hw]
    rw [e1] at hn ⊢
    exact (Js.at_number h).trans hn
  unfold Js.get
  rw [if_neg (by simp only [List.length_cons, List.length_append, List.length_nil]; omega), hv]
  show (if Js.ws [10] = [] ∧ (Js.leaf 2 k 0 ⟨#[]⟩).may = true then _ else _) = _
  rw [if_pos ⟨rfl, Jk.may h1 h2⟩]
/-- a leaf lies wherever it is -/
theorem Jl.leaf {k x : Int} {b : Nat} {s : ByteArray} {w : World} {R : Nat → Prop} {v : Value} (h : (Js.leaf k x b s).Lies w R v) (w' : World) (R' : Nat → Prop) : (Js.leaf k x b s).Lies w' R' v := by
  obtain ⟨ai, c, ak, d, e, h1, h2, h3, h4, _⟩ := h
  exact ⟨ai, c, ak, d, e, h1, h2, h3, ⟨h4.le, h4.max, fun j hj => absurd hj (by omega)⟩, fun i hi => absurd hi (by omega)⟩
structure Jz.S (t : Vt) (w W : World) (g : Nat) (v0 v1 v2 v3 v4 v5 : Value) : Prop where
  low : Below w.heap.size w W
  tab : Jt W
  box : Vm.Box W g v0 v1 v2 v3 v4 v5
  lies : t.Lies W (· < W.heap.size) (.agg #[v0, v1, v2, v3, v4, v5])
theorem Jz.S.on {t : Vt} {w W W' : World} {g : Nat} {v0 v1 v2 v3 v4 v5 : Value} (h : Jz.S t w W g v0 v1 v2 v3 v4 v5) (hb : Below W.heap.size W W') : Jz.S t w W' g v0 v1 v2 v3 v4 v5 :=
  ⟨h.low.trans (hb.mono h.low.size), h.tab.on hb, ⟨(hb.block g h.box.lt).trans h.box.all⟩, (h.lies.below hb).le hb.size⟩
end Go.Proofs.YtboalkfagfgnpaaGreatDoor
/-
  THE WALK of stoleref1.May.
-/
namespace Go.Proofs.YtboalkfagfgnpaaGreatDoor
open Go.RowKit
set_option maxHeartbeats 1000000 in
theorem Sz.may (s : ByteArray) (w : World) (hs : s.size ≤ 4611686018427387904) :
    Calls Tryz.prog 29 #[.string s] w fun e w' => e = .returned (.bool (Pl.mayL s.data.toList)) ∧ Below w.heap.size w w' := by
  go_enter Tryz.func29, Tryz.ntmps29
  go_wp2
  go_loopw [3] (fun i wr => ∃ k : Nat, k ≤ s.size ∧ i = .int .i64 k ∧ Hid (Pl.mayL (s.data.toList.drop k) = Pl.mayL s.data.toList) ∧ Below w.heap.size w wr) (fun i _ => s.size - (intOf i).toNat)
  case atStart => exact ⟨0, Nat.zero_le _, rfl, rfl, Below.refl _ _⟩
  case round =>
    obtain ⟨k, hk, rfl, hm, hb⟩ := hrel
    by_cases hlt : k < s.size
    · have hle := Pl.sgn_le (s.data.toList.drop k)
      rw [List.length_drop, Wk.len_data] at hle
      have h0 := (Sz.nb_at s k 0 (by omega)).symm
      have hboth := Sz.both (s.data.toList.drop k)
      have c := Sz.size s k hlt hs wr
      have hsame := Sz.same (s.data.toList.drop k)
      have hmb := Pl.mayL_bad _ (Wk.drop_ne s k hlt)
      have hms := Pl.mayL_sign (s.data.toList.drop k)
      rw [List.drop_drop] at hms
      have e0 : s[k].toNat = Pl.nb (s.data.toList.drop k) 0 := h0
      generalize Pl.nb (s.data.toList.drop k) 0 = v at *
      generalize Pl.siz (s.data.toList.drop k) = z at *
      generalize Pl.sgn (s.data.toList.drop k) = m at *
      have HMB : Hid (m = 0 → Pl.mayL (s.data.toList.drop k) = false) := hmb
      have HMS : Hid (m ≠ 0 → Pl.mayL (s.data.toList.drop k) = Pl.mayL (s.data.toList.drop (k + m))) := hms
      have HB : Hid ((z = 0 ∨ v = 0) ↔ m = 0) := hboth
      have HS : Hid (m ≠ 0 → z = m) := hsame
      clear hmb hms hboth hsame h0
      by_cases z0 : z = 0
      · have hz : ((z : Int) == 0) = true := beq_iff_eq.2 (by omega)
        have hm0 : m = 0 := HB.out.1 (.inl z0)
        go_wp2_with (go_at_call 55; refine c.mono ?_; rintro e w' ⟨rfl, rfl⟩)
        go_ret
        refine ⟨Wk.ret_bool ?_, hb⟩
        rw [← hm.out, HMB.out hm0]
      · have hz : ((z : Int) == 0) = false := beq_eq_false_iff_ne.2 (by omega)
        by_cases v0 : v = 0
        · have hv : ((v : Int) == 0) = true := beq_iff_eq.2 (by omega)
          have hm0 : m = 0 := HB.out.1 (.inr v0)
          go_wp2_with (go_at_call 55; refine c.mono ?_; rintro e w' ⟨rfl, rfl⟩)
          go_ret
          refine ⟨Wk.ret_bool ?_, hb⟩
          rw [← hm.out, HMB.out hm0]
        · have hv : ((v : Int) == 0) = false := beq_eq_false_iff_ne.2 (by omega)
          have hm0 : m ≠ 0 := fun e => (HB.out.2 e).elim z0 v0
          have hzm := HS.out hm0
          subst hzm
          go_wp2_with (go_at_call 55; refine c.mono ?_; rintro e w' ⟨rfl, rfl⟩)
          go_roundw
          case rel =>
            refine ⟨k + z, by omega, by go_num, ?_, hb⟩
            show _ = _
            rw [← hm.out, HMS.out hm0]
          case measure => simp [intOf]; omega
    · have hke : k = s.size := by omega
      go_wp2
      go_ret
      refine ⟨Wk.ret_bool ?_, hb⟩
      rw [← hm.out, hke, List.drop_of_length_le (by rw [Wk.len_data]; exact Nat.le_refl _)]
      rfl
end Go.Proofs.YtboalkfagfgnpaaGreatDoor
/-
  THE WALK of stolelaw10.keysMay.
-/
namespace Go.Proofs.YtboalkfagfgnpaaGreatDoor
open Go.RowKit
def Js.keysB : Nat → Vt → Bool
  | _, .nil => false
  | 0, .mk _ _ _ _ _ _ m ks => Vt.allTo (fun j => Pl.mayL (ks j).data.toList) m
  | e + 1, .mk _ _ _ _ n it m ks => Vt.allTo (fun j => Pl.mayL (ks j).data.toList) m && Vt.allTo (fun i => Js.keysB e (it i)) n
end Go.Proofs.YtboalkfagfgnpaaGreatDoor
/-
  PLAIN: what stolelaw10.read gives.
-/
namespace Go.Proofs.YtboalkfagfgnpaaGreatDoor
open Go.RowKit
def Js.readT : Nat → Vt → Vt
  | _, .nil => .nil
  | 0, .mk k x b s _ _ m ks => if k = 3 then Js.realBack b else .mk k x 0 ⟨(Pl.normL s.data.toList).toArray⟩ 0 (fun _ => .nil) m ks
  | e + 1, .mk k x b s n it m ks => if k = 3 then Js.realBack b else .mk k x 0 ⟨(Pl.normL s.data.toList).toArray⟩ n (fun i => Js.readT e (it i)) m ks
theorem Js.empty_text {k x : Int} {b : Nat} {s : ByteArray} {n m : Nat} {ks : Nat → ByteArray} (h : Vt.formed k x b s n m ks = true) (h4 : k ≠ 4) : s.toList = [] := by
  unfold Vt.formed at h
  repeat' split at h
  all_goals first
    | (cases h; done)
    | (exfalso; omega)
    | (simp only [Bool.and_eq_true, List.isEmpty_iff] at h; simp only [h])
end Go.Proofs.YtboalkfagfgnpaaGreatDoor
/-
  'append([]T{}, xs...)' at a step of a region that draws.
-/
namespace Go.Proofs.YtboalkfagfgnpaaGreatDoor
open Go.RowKit
theorem Jb.wp_copy {w : World} {o : Oper} {a : Act} {K : Act → World → Prop} {Z : Exit → Act → World → Prop} (s x : Operand)
    (ho : o.op = .call { callee := .builtin .append, args := #[s, x], argTypes := #[24, 24] })
    {base : Nat} (g1 : Nat) (hs : a.eval s = .slice (some ⟨g1, 0, none⟩) 0 0) (hown : w.ownsRow base 9 1 (.slice (some ⟨g1, 0, none⟩) 0 0) 0 []) (n : Nat) (ks : Nat → ByteArray) (aa : Option Addr) (ad : Nat)
    (hx : a.eval x = .slice aa n ad) (hk : ∀ j u, (Vc.texts n ks)[j]? = some u → ∃ b, aa = some b ∧ w.cell? (b.add j) = some u)
    (hn : n ≤ 1048576) (hbase : base ≤ w.heap.size)
    (h : ∀ v' w', w'.ownsRow base 9 1 v' n (Vc.texts n ks) → w.grownBy w' (some g1) → K (a.put o.dst v') w') : o.wp Tryz.prog a w K Z := by
  obtain ⟨iS, hiS, hzS, hsS, hbS⟩ := info_parts Vc.infoS
  by_cases h0 : n = 0
  · subst h0
    have hrun := Vc.run0' Tryz.prog w 24 o.type 9 iS Tryz.underlying24 hiS g1 aa ad
    have h2 := h (.slice (some ⟨g1, 0, none⟩) 0 0) w hown ⟨rfl, rfl, rfl, Nat.le_refl _, fun _ _ _ => rfl⟩
    unfold Oper.wp execOp
    simp only [ho, resolve, invoke, builtin, Sem.run_bind, Sem.run_pure, Result.andThen_ok, List.map_toArray, List.map_cons, List.map_nil, hs, hx, hrun]
    exact h2
  · have hp : 0 < (Vc.texts n ks).length := by rw [Vc.texts_length]; omega
    obtain ⟨b, rfl, _⟩ := hk 0 _ (List.getElem?_eq_getElem hp)
    have hnews : ∀ j u, (Vc.texts n ks)[j]? = some u → w.cell? (b.add j) = some u := fun j u hj => by
      obtain ⟨b', e', hc⟩ := hk j u hj
      cases e'
      exact hc
    obtain ⟨v', w', hr, h2, h3, h4⟩ := run_append_own (P := Tryz.prog) w base 24 o.type 9 iS _ 1 16 Tryz.underlying24 hiS hzS hsS hbS rfl (by decide) (.slice (some ⟨g1, 0, none⟩) 0 0) 0 [] hown b n ad (Vc.texts n ks) (Vc.texts_length n ks) hnews (Vc.texts_one n ks) (by unfold maxLen; omega) (by omega) hbase
    unfold Oper.wp execOp
    simp only [ho, resolve, invoke, builtin, Sem.run_bind, Sem.run_pure, Result.andThen_ok, List.map_toArray, List.map_cons, List.map_nil, hs, hx, hr]
    rw [Nat.zero_add, List.nil_append] at h2
    exact h v' w' h2 h3
/-- at a step of a region that draws -/
theorem Jb.step_copy {w : World} {ops : Array Oper} {o : Oper} {a : Act} {K : Act → World → Prop} {E : Prop} {Z : Exit → Act → World → Prop} (hgd : o.guard = none) (s x : Operand)
    (ho : o.op = .call { callee := .builtin .append, args := #[s, x], argTypes := #[24, 24] })
    {base : Nat} (g1 : Nat) (hs : a.eval s = .slice (some ⟨g1, 0, none⟩) 0 0) (hown : w.ownsRow base 9 1 (.slice (some ⟨g1, 0, none⟩) 0 0) 0 []) (n : Nat) (ks : Nat → ByteArray) (aa : Option Addr) (ad : Nat)
    (hx : a.eval x = .slice aa n ad) (hk : ∀ j u, (Vc.texts n ks)[j]? = some u → ∃ b, aa = some b ∧ w.cell? (b.add j) = some u)
    (hn : n ≤ 1048576) (hbase : base ≤ w.heap.size)
    (h : ∀ v' w', w'.ownsRow base 9 1 v' n (Vc.texts n ks) → w.grownBy w' (some g1) → base ≤ g1 ∧ g1 < w.heap.size → K (a.put o.dst v') w') :
    if Region.wanted o (yielded ops a.tmps) = true then Oper.wp Tryz.prog o a w K Z else E := by
  have hw : Region.wanted o (yielded ops a.tmps) = true := by simp [Region.wanted, hgd]
  rw [if_pos hw]
  exact Jb.wp_copy s x ho g1 hs hown n ks aa ad hx hk hn hbase fun v' w' r g => h v' w' r g (hown.lt g1 rfl)
theorem Jb.empty (X : World) (base g : Nat) (hg : g = X.heap.size) (hb : base ≤ X.heap.size) : (X.alloc (.cells #[] 9)).ownsRow base 9 1 (.slice (some ⟨g, 0, none⟩) 0 0) 0 [] := by
  subst hg
  exact Vc.empty X base hb
theorem Jb.row_on {u u' : World} {base : Nat} {ty : TypeId} {sz : Nat} {v : Value} {n : Nat} {xs : List Value} (h : u.ownsRow base ty sz v n xs) (hb : Below u.heap.size u u') : u'.ownsRow base ty sz v n xs :=
  Jr.own_kept h fun k hk => hb.block k (h.lt k hk).2
theorem Jb.row_alloc {u : World} {base : Nat} {ty : TypeId} {sz : Nat} {v : Value} {n : Nat} {xs : List Value} (h : u.ownsRow base ty sz v n xs) (o : Obj) : (u.alloc o).ownsRow base ty sz v n xs :=
  Jr.own_kept h fun k hk => Below.heap_alloc _ _ _ (h.lt k hk).2
theorem Jb.row_drew {u : World} {base : Nat} {ty : TypeId} {sz : Nat} {v : Value} {n : Nat} {xs : List Value} (h : u.ownsRow base ty sz v n xs) : u.drew.ownsRow base ty sz v n xs :=
  Jr.own_kept h fun _ _ => rfl
theorem Jb.has_grown {u u' : World} {g g1 : Nat} {o : Obj} (h : Vm.Has u g o) (hg : u.grownBy u' (some g1)) (hne : g ≠ g1) : Vm.Has u' g o := (hg.block g h.lt (fun q => hne (by injection q))).trans h
theorem Jb.has_drew {u : World} {g : Nat} {o : Obj} (h : Vm.Has u g o) : Vm.Has u.drew g o := h
theorem Jb.has {p q : Prop} (h : p) (k : p → q) : q := k h
end Go.Proofs.YtboalkfagfgnpaaGreatDoor

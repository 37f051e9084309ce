/-
  THE WALK of stolelaw10.awake.
-/
import Derived.Test.YtboalkfagfgnpabDoorMJWvtoJProg
import Derived.Test.YtboalkfagfgnpabDoorVSame
import Derived.Test.YtboalkfagfgnpabDoorCards
import Derived.Test.YtboalkfagfgnpabDoorTie
import Derived.Test.YtboalkfagfgnpabDoorMRPlaintoShelf
import Derived.Test.YtboalkfagfgnpabDoorMJRptoJSaid
import Derived.WalkKit
import Derived.ProofKit
import Derived.OpenShut
import Derived.ShutString
import Derived.SizedLaws
import Derived.Deep.DeepHandedRow
import Derived.Lib.LaidU8
import Derived.PinnedBridge
import Derived.Lib.TrailingZeros
namespace Go.Proofs.YtboalkfagfgnpabDoor
open Go.RowKit
theorem Jn.num (x : Int) (w : World) : Calls Tryd.prog 10 #[.int .i64 x] w fun e w' => e = .returned (.agg #[.int .i64 2, .int .i64 x, .int .u64 0, .string ⟨#[]⟩, .slice none 0 0, .slice none 0 0]) ∧ Below w.heap.size w w' := by
  go_enter Tryd.func10, Tryd.ntmps10
  go_wp2
  refine bodyPost_ret (v := .agg #[.int .i64 2, .int .i64 x, .int .u64 0, .string ⟨#[]⟩, .slice none 0 0, .slice none 0 0]) (by simp [results, Tryd.results10, go_sem]) rfl ?_
  exact ⟨rfl, (Below.refl _ _).alloc (Nat.le_refl _) _⟩
theorem Jn.text (s : ByteArray) (w : World) : Calls Tryd.prog 11 #[.string s] w fun e w' => e = .returned (.agg #[.int .i64 4, .int .i64 0, .int .u64 0, .string s, .slice none 0 0, .slice none 0 0]) ∧ Below w.heap.size w w' := by
  go_enter Tryd.func11, Tryd.ntmps11
  go_wp2
  refine bodyPost_ret (v := .agg #[.int .i64 4, .int .i64 0, .int .u64 0, .string s, .slice none 0 0, .slice none 0 0]) (by simp [results, Tryd.results11, go_sem]) rfl ?_
  exact ⟨rfl, (Below.refl _ _).alloc (Nat.le_refl _) _⟩
theorem Jn.bits (x : Int) (w : World) : Calls Tryd.prog 12 #[.int .u64 x] w fun e w' => e = .returned (.agg #[.int .i64 3, .int .i64 0, .int .u64 x, .string ⟨#[]⟩, .slice none 0 0, .slice none 0 0]) ∧ Below w.heap.size w w' := by
  go_enter Tryd.func12, Tryd.ntmps12
  go_wp2
  refine bodyPost_ret (v := .agg #[.int .i64 3, .int .i64 0, .int .u64 x, .string ⟨#[]⟩, .slice none 0 0, .slice none 0 0]) (by simp [results, Tryd.results12, go_sem]) rfl ?_
  exact ⟨rfl, (Below.refl _ _).alloc (Nat.le_refl _) _⟩
theorem Jc.get_to {s : ByteArray} {t : Vt} {x : Int} (h1 : Js.got s.data.toList = t) (h2 : Js.gerr s.data.toList = x) (w : World) (hT : Jt w) :
    Calls Tryd.prog 5 #[.string s] w fun e w' => ∃ v, e = .returned (.tuple #[v, .int .i64 x]) ∧ t.Lies w' (fun g => w.heap.size ≤ g ∧ g < w'.heap.size) v ∧ Below w.heap.size w w' := by
  subst h1
  subst h2
  exact Jc.get s w hT
theorem Jc.put_to {t : Vt} {s : ByteArray} {x : Int} (h1 : (⟨(Js.said t).toArray⟩ : ByteArray) = s) (h2 : Js.err t = x) (v : Value) (w : World) (hT : Jt w) (hl : t.Lies w (· < w.heap.size) v) :
    Calls Tryd.prog 7 #[v] w fun e w' => e = .returned (.tuple #[.string s, .int .i64 x]) ∧ Below w.heap.size w w' := by
  subst h1
  subst h2
  exact Jc.put t v w hT hl
/-- a list, a record over blocks -/
theorem Jl.list {W : World} {R : Nat → Prop} {L : List Vt} {ci : Array Value} {gi : Nat} (hi : Vm.Has W gi (.cells ci 27)) (ri : R gi) (hL : L.length ≤ 1000)
    (hci : ∀ i, i < L.length → ∃ u0 u1 u2 u3 u4 u5, ci[i * 6]? = some u0 ∧ ci[i * 6 + 1]? = some u1 ∧ ci[i * 6 + 2]? = some u2 ∧ ci[i * 6 + 3]? = some u3 ∧ ci[i * 6 + 4]? = some u4 ∧ ci[i * 6 + 5]? = some u5 ∧ (L.getD i .nil).Lies W R (.agg #[u0, u1, u2, u3, u4, u5])) :
    (Js.node 5 [] L).Lies W R (.agg #[.int .i64 5, .int .i64 0, .int .u64 0, .string ⟨#[]⟩, .slice (some ⟨gi, 0, none⟩) L.length L.length, .slice none 0 0]) := by
  refine ⟨_, _, _, _, rfl, by decide, Nat.le_refl _, by unfold maxLen; omega, ⟨Nat.le_refl _, by decide, fun j hj => absurd hj (by simp)⟩, fun i hin => ?_⟩
  obtain ⟨u0, u1, u2, u3, u4, u5, c0, c1, c2, c3, c4, c5, hl⟩ := hci i hin
  refine ⟨gi, 0, u0, u1, u2, u3, u4, u5, rfl, ri, ?_, ?_, ?_, ?_, ?_, ?_, hl⟩
  all_goals rw [Nat.zero_add]
  · exact hi.cell _ c0
  · exact hi.cell _ c1
  · exact hi.cell _ c2
  · exact hi.cell _ c3
  · exact hi.cell _ c4
  · exact hi.cell _ c5
theorem Jl.rec {W : World} {R : Nat → Prop} {ks : List ByteArray} {L : List Vt} {ck ci : Array Value} {gk gi : Nat} (hk : Vm.Has W gk (.cells ck 9)) (rk : R gk) (hi : Vm.Has W gi (.cells ci 27)) (ri : R gi) (hL : L.length ≤ 1000) (hK : ks.length ≤ 1000) (hck : ∀ j, j < ks.length → ck[j]? = some (.string (ks.getD j ⟨#[]⟩)))
    (hci : ∀ i, i < L.length → ∃ u0 u1 u2 u3 u4 u5, ci[i * 6]? = some u0 ∧ ci[i * 6 + 1]? = some u1 ∧ ci[i * 6 + 2]? = some u2 ∧ ci[i * 6 + 3]? = some u3 ∧ ci[i * 6 + 4]? = some u4 ∧ ci[i * 6 + 5]? = some u5 ∧ (L.getD i .nil).Lies W R (.agg #[u0, u1, u2, u3, u4, u5])) :
    (Js.node 6 ks L).Lies W R (.agg #[.int .i64 6, .int .i64 0, .int .u64 0, .string ⟨#[]⟩, .slice (some ⟨gi, 0, none⟩) L.length L.length, .slice (some ⟨gk, 0, none⟩) ks.length ks.length]) := by
  refine ⟨_, _, _, _, rfl, by decide, Nat.le_refl _, by unfold maxLen; omega, ⟨Nat.le_refl _, by unfold maxLen; omega, fun j hj => ⟨gk, 0, rfl, rk, by rw [Nat.zero_add]; exact hk.cell _ (hck j hj)⟩⟩, fun i hin => ?_⟩
  obtain ⟨u0, u1, u2, u3, u4, u5, c0, c1, c2, c3, c4, c5, hl⟩ := hci i hin
  refine ⟨gi, 0, u0, u1, u2, u3, u4, u5, rfl, ri, ?_, ?_, ?_, ?_, ?_, ?_, hl⟩
  all_goals rw [Nat.zero_add]
  · exact hi.cell _ c0
  · exact hi.cell _ c1
  · exact hi.cell _ c2
  · exact hi.cell _ c3
  · exact hi.cell _ c4
  · exact hi.cell _ c5
def Js.r1 : Vt := Js.node 6 [⟨#[97]⟩, ⟨#[98]⟩] [Js.leaf 2 (-5) 0 ⟨#[]⟩, Js.node 5 [] [Js.leaf 4 0 0 ⟨#[60, 39, 226, 128, 168]⟩, Js.leaf 3 0 9223372036854775808 ⟨#[]⟩, Js.leaf 1 0 0 ⟨#[]⟩]]
def Js.s1 : ByteArray := ⟨#[123, 34, 97, 34, 58, 45, 53, 44, 34, 98, 34, 58, 91, 34, 92, 117, 48, 48, 51, 99, 92, 117, 48, 48, 50, 55, 92, 117, 50, 48, 50, 56, 34, 44, 45, 48, 44, 102, 97, 108, 115, 101, 93, 125]⟩
theorem Js.p1 : (⟨(Js.said Js.r1).toArray⟩ : ByteArray) = Js.s1 ∧ Js.err Js.r1 = 0 := ⟨by kernel_rfl, by kernel_rfl⟩
theorem Js.s1_is : (Js.s1.toList == [123, 34, 97, 34, 58, 45, 53, 44, 34, 98, 34, 58, 91, 34, 92, 117, 48, 48, 51, 99, 92, 117, 48, 48, 50, 55, 92, 117, 50, 48, 50, 56, 34, 44, 45, 48, 44, 102, 97, 108, 115, 101, 93, 125]) = true := by
  rw [ByteArray.toList_eq]
  decide +kernel
theorem Js.p2 : Js.err (Js.leaf 2 9007199254740992 0 ⟨#[]⟩) = 1000 := by kernel_rfl
theorem Js.e1 : Js.gerr Js.l1 = 0 ∧ Js.got Js.l1 = Js.w1 := ⟨by kernel_rfl, by unfold Js.got; rw [Js.g1]; rfl⟩
theorem Js.e2 : Js.gerr [123, 34, 98, 34, 58, 49, 44, 34, 97, 34, 58, 50, 125] = 1000 := by kernel_rfl
theorem Js.e3 : Js.gerr [48, 49] = 1000 := by kernel_rfl
theorem Js.same1 : Js.w1.eq Js.w1 = true := by kernel_rfl
theorem Ja.lies1 {W : World} {gk g1 g2 : Nat} (hk : Vm.Has W gk (.cells #[.string ⟨#[97]⟩, .string ⟨#[98]⟩] 9))
    (h1 : Vm.Has W g1 (.cells #[.int .i64 4, .int .i64 0, .int .u64 0, .string ⟨#[60, 39, 226, 128, 168]⟩, .slice none 0 0, .slice none 0 0, .int .i64 3, .int .i64 0, .int .u64 9223372036854775808, .string ⟨#[]⟩, .slice none 0 0, .slice none 0 0, .int .i64 1, .int .i64 0, .int .u64 0, .string ⟨#[]⟩, .slice none 0 0, .slice none 0 0] 27))
    (h2 : Vm.Has W g2 (.cells #[.int .i64 2, .int .i64 (-5), .int .u64 0, .string ⟨#[]⟩, .slice none 0 0, .slice none 0 0, .int .i64 5, .int .i64 0, .int .u64 0, .string ⟨#[]⟩, .slice (some ⟨g1, 0, none⟩) 3 3, .slice none 0 0] 27)) :
    Js.r1.Lies W (· < W.heap.size) (.agg #[.int .i64 6, .int .i64 0, .int .u64 0, .string ⟨#[]⟩, .slice (some ⟨g2, 0, none⟩) 2 2, .slice (some ⟨gk, 0, none⟩) 2 2]) := by
  refine Jl.rec (ks := [⟨#[97]⟩, ⟨#[98]⟩]) (L := [_, _]) hk hk.lt h2 h2.lt (by decide) (by decide) (fun j hj => ?_) (fun i hi => ?_)
  · match j, hj with
    | 0, _ => rfl
    | 1, _ => rfl
  · match i, hi with
    | 0, _ => exact ⟨_, _, _, _, _, _, rfl, rfl, rfl, rfl, rfl, rfl, Vt.leaf_lies 2 (-5) 0 ⟨#[]⟩ (by decide) W _⟩
    | 1, _ =>
      refine ⟨_, _, _, _, _, _, rfl, rfl, rfl, rfl, rfl, rfl, ?_⟩
      refine Jl.list (L := [_, _, _]) h1 h1.lt (by decide) (fun i hi => ?_)
      match i, hi with
      | 0, _ => exact ⟨_, _, _, _, _, _, rfl, rfl, rfl, rfl, rfl, rfl, Vt.leaf_lies 4 0 0 ⟨#[60, 39, 226, 128, 168]⟩ (by decide) W _⟩
      | 1, _ => exact ⟨_, _, _, _, _, _, rfl, rfl, rfl, rfl, rfl, rfl, Vt.leaf_lies 3 0 9223372036854775808 ⟨#[]⟩ (by decide) W _⟩
      | 2, _ => exact ⟨_, _, _, _, _, _, rfl, rfl, rfl, rfl, rfl, rfl, Vt.leaf_lies 1 0 0 ⟨#[]⟩ (by decide) W _⟩
theorem Ja.lies2 {W : World} {gk g1 g2 : Nat} (hk : Vm.Has W gk (.cells #[.string ⟨#[97]⟩] 9))
    (h1 : Vm.Has W g1 (.cells #[.int .i64 2, .int .i64 1, .int .u64 0, .string ⟨#[]⟩, .slice none 0 0, .slice none 0 0, .int .i64 4, .int .i64 0, .int .u64 0, .string ⟨#[240, 159, 152, 128, 10]⟩, .slice none 0 0, .slice none 0 0, .int .i64 3, .int .i64 0, .int .u64 9223372036854775808, .string ⟨#[]⟩, .slice none 0 0, .slice none 0 0, .int .i64 0, .int .i64 0, .int .u64 0, .string ⟨#[]⟩, .slice none 0 0, .slice none 0 0] 27))
    (h2 : Vm.Has W g2 (.cells #[.int .i64 5, .int .i64 0, .int .u64 0, .string ⟨#[]⟩, .slice (some ⟨g1, 0, none⟩) 4 4, .slice none 0 0] 27)) :
    Js.w1.Lies W (· < W.heap.size) (.agg #[.int .i64 6, .int .i64 0, .int .u64 0, .string ⟨#[]⟩, .slice (some ⟨g2, 0, none⟩) 1 1, .slice (some ⟨gk, 0, none⟩) 1 1]) := by
  refine Jl.rec (ks := [⟨#[97]⟩]) (L := [_]) hk hk.lt h2 h2.lt (by decide) (by decide) (fun j hj => ?_) (fun i hi => ?_)
  · match j, hj with
    | 0, _ => rfl
  · match i, hi with
    | 0, _ =>
      refine ⟨_, _, _, _, _, _, rfl, rfl, rfl, rfl, rfl, rfl, ?_⟩
      refine Jl.list (L := [_, _, _, _]) h1 h1.lt (by decide) (fun i hi => ?_)
      match i, hi with
      | 0, _ => exact ⟨_, _, _, _, _, _, rfl, rfl, rfl, rfl, rfl, rfl, Vt.leaf_lies 2 1 0 ⟨#[]⟩ (by decide) W _⟩
      | 1, _ => exact ⟨_, _, _, _, _, _, rfl, rfl, rfl, rfl, rfl, rfl, Vt.leaf_lies 4 0 0 ⟨#[240, 159, 152, 128, 10]⟩ (by decide) W _⟩
      | 2, _ => exact ⟨_, _, _, _, _, _, rfl, rfl, rfl, rfl, rfl, rfl, Vt.leaf_lies 3 0 9223372036854775808 ⟨#[]⟩ (by decide) W _⟩
      | 3, _ => exact ⟨_, _, _, _, _, _, rfl, rfl, rfl, rfl, rfl, rfl, Vt.leaf_lies 0 0 0 ⟨#[]⟩ (by decide) W _⟩
theorem Jl.below {w W : World} (h : Below w.heap.size w W) (o : Obj) : Below w.heap.size w (W.alloc o) := h.alloc h.size o
/-- how things stand behind the first Get -/
structure Ja.S (w W : World) (g : Nat) (v0 v1 v2 v3 v4 v5 : Value) : Prop where
  low : Below w.heap.size w W
  tab : Jt W
  box : Vm.Box W g v0 v1 v2 v3 v4 v5
  lies : Js.w1.Lies W (· < W.heap.size) (.agg #[v0, v1, v2, v3, v4, v5])
theorem Ja.S.on {w W W' : World} {g : Nat} {v0 v1 v2 v3 v4 v5 : Value} (h : Ja.S w W g v0 v1 v2 v3 v4 v5) (hb : Below W.heap.size W W') : Ja.S w W' g v0 v1 v2 v3 v4 v5 :=
  ⟨h.low.trans (hb.mono h.low.size), h.tab.on hb, ⟨(hb.block g h.box.lt).trans h.box.all⟩, (h.lies.below hb).le hb.size⟩
set_option maxRecDepth 100000 in
set_option maxHeartbeats 4000000 in
theorem Ja.awake (w : World) (hT : Jt w) : Calls Tryd.prog 4 #[] w fun e w' => e = .returned (.bool true) ∧ Below w.heap.size w w' := by
  have n1 := fun x u => Jn.num x u
  have n2 := fun s u => Jn.text s u
  have n3 := fun x u => Jn.bits x u
  go_enter Tryd.func4, Tryd.ntmps4
  go_wp2_with (first | (go_at_call 10; refine (n1 _ _).mono ?_; rintro e w1 ⟨rfl, b1⟩; have B1 := Lib.hid b1; clear b1 n1) | (go_at_call 11; refine (n2 _ _).mono ?_; rintro e w2 ⟨rfl, b2⟩; have B2 := Lib.hid b2; clear b2 n2) | (go_at_call 12; refine (n3 _ _).mono ?_; rintro e w3 ⟨rfl, b3⟩; have B3 := Lib.hid b3; clear b3 n3))
  have L3 := Lib.hid (Wk.below_step (Wk.below_step (Wk.below_step (Jl.below (Below.refl w.heap.size w) _) B1.out) B2.out) B3.out)
  have K3 := Lib.hid ((((Vm.Has.new w (.cells #[.string ⟨#[97]⟩, .string ⟨#[98]⟩] 9) _ rfl).on B1.out).on B2.out).on B3.out)
  clear B1 B2 B3
  refine (Jc.put_to Js.p1.1 Js.p1.2 _ _ (hT.on (Jl.below (Jl.below (Jl.below L3.out _) _) _)) (Ja.lies1 (K3.out.alloc _ |>.alloc _ |>.alloc _) ((Vm.Has.new w3 _ _ rfl).alloc _ |>.alloc _) ((Vm.Has.new _ _ (w3.heap.size + 1) (by simp)).alloc _))).mono ?_
  rintro e w4 ⟨rfl, b4⟩
  have L4 := Lib.hid (Wk.below_step (Jl.below (Jl.below (Jl.below L3.out _) _) _) b4)
  clear b4 L3 K3
  go_wp2_with fail
  refine (Jc.get_to Js.e1.2 Js.e1.1 _ (hT.on L4.out)).mono ?_
  rintro e w5 ⟨v5, rfl, l5, b5⟩
  obtain ⟨k, x, b, s, ai, n, c, ak, m, d, rfl⟩ := l5.form
  have S : Ja.S w (w5.alloc (.cells #[.int .i64 k, .int .i64 x, .int .u64 (b : Int), .string s, .slice ai n c, .slice ak m d] 27)) w5.heap.size (.int .i64 k) (.int .i64 x) (.int .u64 (b : Int)) (.string s) (.slice ai n c) (.slice ak m d) :=
    ⟨Jl.below (Wk.below_step L4.out b5) _, hT.on (Jl.below (Wk.below_step L4.out b5) _), ⟨Vm.new _ _⟩, l5.on fun g hg => ⟨by simp; omega, Below.heap_alloc _ _ _ hg.2⟩⟩
  have HS := Lib.hid S
  clear S l5 b5 L4
  go_wp2_with fail
  generalize w5.alloc (.cells #[.int .i64 k, .int .i64 x, .int .u64 (b : Int), .string s, .slice ai n c, .slice ak m d] 27) = W at *
  generalize w5.heap.size = g at *
  refine (Jc.get_to (t := Js.leaf 0 0 0 ⟨#[]⟩) (x := 1000) (by kernel_rfl) (by kernel_rfl) _ HS.out.tab).mono ?_
  rintro e w6 ⟨v6, rfl, l6, b6⟩
  obtain ⟨k6, x6, d6, s6, ai6, n6, c6, ak6, m6, e6, rfl⟩ := l6.form
  have HS := Lib.hid (HS.out.on b6)
  clear l6 b6
  go_wp2_with fail
  have HA := Lib.hid (fun o => HS.out.on (Jl.below (Below.refl w6.heap.size w6) o))
  clear HS
  refine (Jc.get_to (t := Js.leaf 0 0 0 ⟨#[]⟩) (x := 1000) (by kernel_rfl) (by kernel_rfl) _ (HA.out _).tab).mono ?_
  rintro e w7 ⟨v7, rfl, l7, b7⟩
  obtain ⟨k7, x7, d7, s7, ai7, n7, c7, ak7, m7, e7, rfl⟩ := l7.form
  have HS := Lib.hid ((HA.out _).on b7)
  clear l7 b7 HA
  go_wp2_with fail
  have HA := Lib.hid (fun o => HS.out.on (Jl.below (Below.refl w7.heap.size w7) o))
  clear HS
  refine (Jn.num 9007199254740992 _).mono ?_
  rintro e w8 ⟨rfl, b8⟩
  have HS := Lib.hid ((HA.out _).on b8)
  clear b8 HA
  go_wp2_with fail
  refine (Jc.put_to (t := Js.leaf 2 9007199254740992 0 ⟨#[]⟩) (s := ⟨#[]⟩) (x := 1000) (by kernel_rfl) (by kernel_rfl) _ _ HS.out.tab (Vt.leaf_lies 2 9007199254740992 0 ⟨#[]⟩ (by decide) _ _)).mono ?_
  rintro e w9 ⟨rfl, b9⟩
  have HS := Lib.hid (HS.out.on b9)
  clear b9
  have hs1 := Js.s1_is
  have n1 := fun x u => Jn.num x u
  have n2 := fun s u => Jn.text s u
  have n3 := fun x u => Jn.bits x u
  go_wp2_with (first | (go_at_call 10; refine (n1 _ _).mono ?_; rintro e wa ⟨rfl, ba⟩; have Ba := Lib.hid ba; clear ba n1) | (go_at_call 11; refine (n2 _ _).mono ?_; rintro e wb ⟨rfl, bb⟩; have Bb := Lib.hid bb; clear bb n2) | (go_at_call 12; refine (n3 _ _).mono ?_; rintro e wc ⟨rfl, bc⟩; have Bc := Lib.hid bc; clear bc n3))
  refine (Vn.errno _ _).mono ?_
  rintro e wd ⟨rfl, hw⟩
  have K9 := Lib.hid ((((Vm.Has.new w9 (.cells #[.string ⟨#[97]⟩] 9) _ rfl).on Ba.out).on Bb.out).on Bc.out)
  have HC := Lib.hid ((((HS.out.on (Jl.below (Below.refl _ _) _)).on Ba.out).on Bb.out).on Bc.out)
  have S9 : Hid (Ja.S w wd g (.int .i64 k) (.int .i64 x) (.int .u64 (b : Int)) (.string s) (.slice ai n c) (.slice ak m d)) := by
    unfold Hid
    rw [hw]
    exact ((HC.out.on (Jl.below (Below.refl _ _) _)).on (Jl.below (Below.refl _ _) _)).on (Jl.below (Below.refl _ _) _)
  have L9 : Hid (Js.w1.Lies wd (· < wd.heap.size) (.agg #[.int .i64 6, .int .i64 0, .int .u64 0, .string ⟨#[]⟩, .slice (some ⟨wc.heap.size + 1, 0, none⟩) 1 1, .slice (some ⟨w9.heap.size, 0, none⟩) 1 1])) := by
    unfold Hid
    rw [hw]
    exact Ja.lies2 (K9.out.alloc _ |>.alloc _ |>.alloc _) ((Vm.Has.new wc _ _ rfl).alloc _ |>.alloc _) ((Vm.Has.new _ _ (wc.heap.size + 1) (by simp)).alloc _)
  have B9 : Hid (Vm.Box wd (wc.heap.size + 1 + 1) (.int .i64 6) (.int .i64 0) (.int .u64 0) (.string ⟨#[]⟩) (.slice (some ⟨wc.heap.size + 1, 0, none⟩) 1 1) (.slice (some ⟨w9.heap.size, 0, none⟩) 1 1)) := by
    unfold Hid
    rw [hw]
    exact ⟨Vm.Has.new _ _ _ (by simp)⟩
  clear hw K9 HC HS Ba Bb Bc
  obtain ⟨q0, q1, q2, q3, q4, q5⟩ := S9.out.box.cells
  obtain ⟨r0, r1, r2, r3, r4, r5⟩ := B9.out.cells
  have sm := Vs.same Js.w1 Js.w1 _ _ wd S9.out.lies L9.out
  rw [Js.same1] at sm
  have er := fun x u => Vn.errno x u
  go_wp2_with (first | (go_at_call 6; refine (er _ _).mono ?_; rintro e w' ⟨rfl, hw⟩; have hw := hw.symm; subst hw) | (go_at_call 8; refine sm.mono ?_; rintro e we ⟨rfl, be⟩; have BE := Lib.hid be; clear be))
  go_ret
  exact ⟨rfl, Wk.below_step S9.out.low BE.out⟩
end Go.Proofs.YtboalkfagfgnpabDoor
/-
  WHAT ALL CARDS OF THIS SEAT SHARE: the tables of unicode/utf8, math/bits and internal/strconv out of the rows' lists, and a world for the witness in which they lie.
-/
namespace Go.Proofs.YtboalkfagfgnpabDoor
open Go.ChangeShapes Go.WideShapes Go.ChangeAt Go.RowKit

theorem Fr.own : ownKnob Tryd.prog.godebug = none := by kernel_rfl
/-- a variable that reads as a table holds its numbers -/
theorem Fr.tab {P : Program} {W : World} {name : String} {k : IntKind} {zs : List Int} {g : Nat} {t e : TypeId} {n : Nat}
    (hg : P.globalNamed name = some g) (hty : (P.globals[g]?).map (·.type) = some t) (ht : P.underlying t = some (.array n e)) (he : P.underlying e = some (.int k)) (hce : P.cellsOf e = 1) (hct : P.cellsOf t = n)
    (h : Lib.VarReads P W name (Lib.tabData k zs)) : Lib.TabIs P W name k zs := by
  obtain ⟨g', t', cs, fuel, p, hg', ht', hvar, hd⟩ := h
  obtain rfl := Option.some.inj (hg.symm.trans hg')
  obtain rfl := Option.some.inj (hty.symm.trans ht')
  unfold Lib.TabIs
  rw [hvar, ← Lib.cells_of_tab ht he hce hct hd]
theorem Fr.e64 : (Rows.laid_math_bits_deBruijn64tab : DataW Unit) = Lib.tabData .u8 Re.tzTab := by kernel_rfl
theorem Fr.e10 : (Rows.laid_internal_strconv_uint64pow10 : DataW Unit) = Lib.tabData .u64 Lib.pow10Tab := by kernel_rfl
set_option maxRecDepth 100000 in
theorem Fr.acc : (Rows.laid_unicode_utf8_acceptRanges : DataW Unit) = Lib.acceptData := by kernel_rfl
theorem Fr.extra : U8Extra Tryd.prog Sh.lays260_ren := ⟨by kernel_rfl, by kernel_rfl, by kernel_rfl, by kernel_rfl, by kernel_rfl, by kernel_rfl, by kernel_rfl⟩

/-- WHAT THE ROWS' LIST GIVES: the tables lie as Go lays them. -/
theorem Fr.tabs {W : World} (h : laidMet Tryd.prog Rows.jsonAgainRow.laid W) : Jt W := by
  have h2 := Lib.laidMet.reads h (.tail _ (.head _))
  have h3 := Lib.laidMet.reads h (.tail _ (.tail _ (.head _)))
  have h4 := Lib.laidMet.reads h (.tail _ (.tail _ (.tail _ (.head _))))
  have h5 := Lib.laidMet.reads h (.tail _ (.tail _ (.tail _ (.tail _ (.head _)))))
  have e5 : Rows.laid_unicode_utf8_first = Lib.firstData := Pinned.utf8First_eq
  rw [Fr.e64] at h2
  rw [Fr.e10] at h3
  rw [Fr.acc] at h4
  rw [e5] at h5
  exact ⟨utf8Tabs_of_reads (ρ := Sh.lays260_ren) Sh.lays260 Fr.extra h5 h4,
    Fr.tab (g := 3) (t := 109) (by kernel_rfl) (by kernel_rfl) Tryd.underlying109 Tryd.underlying23 (by kernel_rfl) (by kernel_rfl) h3,
    Fr.tab (g := 4) (t := 114) (by kernel_rfl) (by kernel_rfl) Tryd.underlying114 Tryd.underlying5 (by kernel_rfl) (by kernel_rfl) h2⟩

/-- what the second form's condition says -/
theorem Fr.bulk {H : Type} {ds : List (DataW H)} (hk : Rows.uptoSmall H ds = true) : Rows.uptoBulkAll ds ≤ 1048576 := of_decide_eq_true hk
/-- a block's cells, laid anew -/
def Fr.put (k : IntKind) (cs : List Nat) : Obj → Obj
  | .cells _ t frozen => .cells (cs.map fun z : Nat => Value.int k z).toArray t frozen
  | o => o
def Fr.ranges : List Nat := [128, 191, 160, 191, 128, 159, 144, 191, 128, 143, 0, 0, 0, 0, 0, 0, 0, 0, 0, 0, 0, 0, 0, 0, 0, 0, 0, 0, 0, 0, 0, 0]
/-- FOR THE WITNESS's WORLD: the tables holding what their initialisers lay. -/
def Fr.lay (w : World) : World := { w with heap := ((((w.heap.modify 4 (Fr.put .u8 Lib.deBruijn64tab)).modify 6 (Fr.put .u8 Lib.deBruijn32tab)).modify 3 (Fr.put .u64 ((List.range 20).map fun i => 10 ^ i))).modify 0 (Fr.put .u8 Pinned.utf8FirstZ)).modify 1 (Fr.put .u8 Fr.ranges) }
end Go.Proofs.YtboalkfagfgnpabDoor

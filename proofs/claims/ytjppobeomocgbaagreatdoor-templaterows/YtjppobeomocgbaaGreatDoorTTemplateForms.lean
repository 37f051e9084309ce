/-
  THE WALK of stolelaw16.TemplateForms: it returns true.
-/
import Derived.Test.YtjppobeomocgbaaGreatDoorTMParsetoGBits
namespace Go.Proofs.YtjppobeomocgbaaGreatDoor
open Go.RowKit
set_option maxRecDepth 100000 in
theorem Mf.named (q : Nat) (hq : q < 16) : ∃ (nm : ByteArray) (e : Int), (∀ h : q < ([Value.string ⟨#[123, 123, 101, 110, 100, 125, 125]⟩, Value.string ⟨#[123, 123, 105, 102, 32, 46, 125, 125, 123, 123, 101, 108, 115, 101, 125, 125, 123, 123, 101, 108, 115, 101, 125, 125, 123, 123, 101, 110, 100, 125, 125]⟩, Value.string ⟨#[123, 123, 114, 97, 110, 103, 101, 32, 46, 125, 125, 123, 123, 101, 108, 115, 101, 125, 125, 123, 123, 98, 114, 101, 97, 107, 125, 125, 123, 123, 101, 110, 100, 125, 125]⟩, Value.string ⟨#[123, 123, 105, 102, 32, 46, 125, 125, 123, 123, 99, 111, 110, 116, 105, 110, 117, 101, 125, 125, 123, 123, 101, 110, 100, 125, 125]⟩, Value.string ⟨#[123, 123, 101, 108, 115, 101, 32, 46, 125, 125]⟩, Value.string ⟨#[123, 123, 101, 110, 100, 32, 49, 125, 125]⟩, Value.string ⟨#[123, 123, 116, 101, 109, 112, 108, 97, 116, 101, 32, 120, 125, 125]⟩, Value.string ⟨#[123, 123, 116, 101, 109, 112, 108, 97, 116, 101, 125, 125]⟩, Value.string ⟨#[123, 123, 32, 125, 125]⟩, Value.string ⟨#[123, 123, 105, 102, 125, 125, 120, 123, 123, 101, 110, 100, 125, 125]⟩, Value.string ⟨#[123, 123, 36, 120, 46, 97, 32, 58, 61, 32, 49, 125, 125]⟩, Value.string ⟨#[123, 123, 36, 120, 32, 58, 61, 125, 125]⟩, Value.string ⟨#[123, 123, 102, 111, 111, 125, 125]⟩, Value.string ⟨#[123, 123, 46, 32, 46, 125, 125]⟩, Value.string ⟨#[123, 123, 34, 97, 125, 125]⟩, Value.string ⟨#[123, 123, 114, 97, 110, 103, 101, 32, 46, 125, 125]⟩] : List Value).length, ([Value.string ⟨#[123, 123, 101, 110, 100, 125, 125]⟩, Value.string ⟨#[123, 123, 105, 102, 32, 46, 125, 125, 123, 123, 101, 108, 115, 101, 125, 125, 123, 123, 101, 108, 115, 101, 125, 125, 123, 123, 101, 110, 100, 125, 125]⟩, Value.string ⟨#[123, 123, 114, 97, 110, 103, 101, 32, 46, 125, 125, 123, 123, 101, 108, 115, 101, 125, 125, 123, 123, 98, 114, 101, 97, 107, 125, 125, 123, 123, 101, 110, 100, 125, 125]⟩, Value.string ⟨#[123, 123, 105, 102, 32, 46, 125, 125, 123, 123, 99, 111, 110, 116, 105, 110, 117, 101, 125, 125, 123, 123, 101, 110, 100, 125, 125]⟩, Value.string ⟨#[123, 123, 101, 108, 115, 101, 32, 46, 125, 125]⟩, Value.string ⟨#[123, 123, 101, 110, 100, 32, 49, 125, 125]⟩, Value.string ⟨#[123, 123, 116, 101, 109, 112, 108, 97, 116, 101, 32, 120, 125, 125]⟩, Value.string ⟨#[123, 123, 116, 101, 109, 112, 108, 97, 116, 101, 125, 125]⟩, Value.string ⟨#[123, 123, 32, 125, 125]⟩, Value.string ⟨#[123, 123, 105, 102, 125, 125, 120, 123, 123, 101, 110, 100, 125, 125]⟩, Value.string ⟨#[123, 123, 36, 120, 46, 97, 32, 58, 61, 32, 49, 125, 125]⟩, Value.string ⟨#[123, 123, 36, 120, 32, 58, 61, 125, 125]⟩, Value.string ⟨#[123, 123, 102, 111, 111, 125, 125]⟩, Value.string ⟨#[123, 123, 46, 32, 46, 125, 125]⟩, Value.string ⟨#[123, 123, 34, 97, 125, 125]⟩, Value.string ⟨#[123, 123, 114, 97, 110, 103, 101, 32, 46, 125, 125]⟩] : List Value)[q] = .string nm) ∧ (∀ h : q < ([Value.int .i64 1600, Value.int .i64 1601, Value.int .i64 1602, Value.int .i64 1602, Value.int .i64 1604, Value.int .i64 1604, Value.int .i64 1604, Value.int .i64 1604, Value.int .i64 1604, Value.int .i64 1500, Value.int .i64 1500, Value.int .i64 1500, Value.int .i64 1500, Value.int .i64 1500, Value.int .i64 1300, Value.int .i64 1600] : List Value).length, ([Value.int .i64 1600, Value.int .i64 1601, Value.int .i64 1602, Value.int .i64 1602, Value.int .i64 1604, Value.int .i64 1604, Value.int .i64 1604, Value.int .i64 1604, Value.int .i64 1604, Value.int .i64 1500, Value.int .i64 1500, Value.int .i64 1500, Value.int .i64 1500, Value.int .i64 1500, Value.int .i64 1300, Value.int .i64 1600] : List Value)[q] = .int .i64 e) ∧ nm.size ≤ 100 ∧ Tm.parse ((⟨#[97]⟩ : ByteArray) ++ nm) = ([], e) :=
  match q, hq with
  | 0, _ => ⟨_, _, fun _ => rfl, fun _ => rfl, by decide, by kernel_rfl⟩
  | 1, _ => ⟨_, _, fun _ => rfl, fun _ => rfl, by decide, by kernel_rfl⟩
  | 2, _ => ⟨_, _, fun _ => rfl, fun _ => rfl, by decide, by kernel_rfl⟩
  | 3, _ => ⟨_, _, fun _ => rfl, fun _ => rfl, by decide, by kernel_rfl⟩
  | 4, _ => ⟨_, _, fun _ => rfl, fun _ => rfl, by decide, by kernel_rfl⟩
  | 5, _ => ⟨_, _, fun _ => rfl, fun _ => rfl, by decide, by kernel_rfl⟩
  | 6, _ => ⟨_, _, fun _ => rfl, fun _ => rfl, by decide, by kernel_rfl⟩
  | 7, _ => ⟨_, _, fun _ => rfl, fun _ => rfl, by decide, by kernel_rfl⟩
  | 8, _ => ⟨_, _, fun _ => rfl, fun _ => rfl, by decide, by kernel_rfl⟩
  | 9, _ => ⟨_, _, fun _ => rfl, fun _ => rfl, by decide, by kernel_rfl⟩
  | 10, _ => ⟨_, _, fun _ => rfl, fun _ => rfl, by decide, by kernel_rfl⟩
  | 11, _ => ⟨_, _, fun _ => rfl, fun _ => rfl, by decide, by kernel_rfl⟩
  | 12, _ => ⟨_, _, fun _ => rfl, fun _ => rfl, by decide, by kernel_rfl⟩
  | 13, _ => ⟨_, _, fun _ => rfl, fun _ => rfl, by decide, by kernel_rfl⟩
  | 14, _ => ⟨_, _, fun _ => rfl, fun _ => rfl, by decide, by kernel_rfl⟩
  | 15, _ => ⟨_, _, fun _ => rfl, fun _ => rfl, by decide, by kernel_rfl⟩
  | n + 16, h => absurd h (by omega)
theorem Mf.cell (w : World) (A : Obj) (vs : List Value) (ty : TypeId) (q : Nat) (u : Value) (h : vs[q]? = some u) : ((w.alloc A).alloc (.cells vs.toArray ty)).cell? ⟨w.heap.size + 1, q, none⟩ = some u := by
  have := Gr.cells (w.alloc A) vs ty q u h
  simpa using this
set_option maxRecDepth 100000 in
set_option maxHeartbeats 4000000 in
theorem Law.templateForms (wh : Int) (w : World) (hT : Mp.T w) : Calls Tryz.prog 5 #[.int .i64 wh] w fun e w' => e = .returned (.bool true) ∧ Below w.heap.size w w' := by
  have aw := Mw.awake w hT
  obtain ⟨q, hq, hz⟩ : ∃ q : Nat, q < 16 ∧ wrap64 ((IntKind.u64.wrap wh).tmod 16) = (q : Int) := by
    have h1 : 0 ≤ IntKind.u64.wrap wh := by
      rw [IntKind.wrap_u64]
      omega
    have h2 : (IntKind.u64.wrap wh).tmod 16 = IntKind.u64.wrap wh % 16 := Int.tmod_eq_emod_of_nonneg h1
    refine ⟨(IntKind.u64.wrap wh % 16).toNat, by omega, ?_⟩
    rw [h2]
    unfold wrap64
    omega
  obtain ⟨nm, e, hnm, he, hs, hN⟩ := Mf.named q hq
  have ps := fun u (h : Mp.T u) => Mp.parse ((⟨#[97]⟩ : ByteArray) ++ nm) u h
  rw [hN] at ps
  have HT := Lib.hid hT
  have er := fun x u => Iw.num x u
  clear hN hT
  have hsz : ((⟨#[97]⟩ : ByteArray) ++ nm).size = nm.size + 1 := by rw [ByteArray.size_append]; show 1 + nm.size = _; omega
  go_enter Tryz.func5, Tryz.ntmps5
  go_wp2_with (first | (go_at_call 13; refine aw.mono ?_; rintro e w1 ⟨rfl, b1⟩; have B1 := Lib.hid b1; clear b1 aw))
  refine Calls.mono (ps _ (HT.out.on (Wk.below_step B1.out (Iw.b2 w1 _ _)))) ?_
  rintro e9 w2 ⟨v2, rfl, l2, b2⟩
  obtain ⟨a2, d2, hv⟩ := Tr.form l2
  subst hv
  have kc := Tp.keep b2 (Mf.cell w1 _ [Value.int .i64 1600, Value.int .i64 1601, Value.int .i64 1602, Value.int .i64 1602, Value.int .i64 1604, Value.int .i64 1604, Value.int .i64 1604, Value.int .i64 1604, Value.int .i64 1604, Value.int .i64 1500, Value.int .i64 1500, Value.int .i64 1500, Value.int .i64 1500, Value.int .i64 1500, Value.int .i64 1300, Value.int .i64 1600] 3 q _ (List.getElem?_eq_some_iff.2 ⟨hq, he hq⟩))
  have B2 := Lib.hid (Wk.below_step (Wk.below_step B1.out (Iw.b2 w1 _ _)) b2)
  clear b2 l2 ps hnm he
  go_wp2_with fail
  go_quiet ((go_at_call 11; exact Calls.quiet_of_same (er _ _)))
  go_wp2
  go_ret
  exact ⟨rfl, Iw.drewN B2.out _⟩
end Go.Proofs.YtjppobeomocgbaaGreatDoor

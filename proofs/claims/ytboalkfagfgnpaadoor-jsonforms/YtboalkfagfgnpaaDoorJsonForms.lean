/-
  THE WALK of stolelaw10.JsonForms: it returns true.
-/
import Derived.Test.YtboalkfagfgnpaaDoorMJAwtoFrame10
namespace Go.Proofs.YtboalkfagfgnpaaDoor
open Go.RowKit
set_option maxRecDepth 100000 in
theorem Jf.named (q : Nat) (hq : q < 38) : ∃ nm : ByteArray, (∀ h : q < ([Value.string ⟨#[]⟩, Value.string ⟨#[32]⟩, Value.string ⟨#[110, 117, 108]⟩, Value.string ⟨#[110, 117, 108, 108, 108]⟩, Value.string ⟨#[84, 114, 117, 101]⟩, Value.string ⟨#[48, 49]⟩, Value.string ⟨#[45]⟩, Value.string ⟨#[43, 49]⟩, Value.string ⟨#[49, 46]⟩, Value.string ⟨#[49, 46, 48]⟩, Value.string ⟨#[49, 101, 53]⟩, Value.string ⟨#[57, 48, 48, 55, 49, 57, 57, 50, 53, 52, 55, 52, 48, 57, 57, 50]⟩, Value.string ⟨#[34]⟩, Value.string ⟨#[34, 97]⟩, Value.string ⟨#[34, 10, 34]⟩, Value.string ⟨#[34, 92, 120, 34]⟩, Value.string ⟨#[34, 92, 117, 49, 50, 34]⟩, Value.string ⟨#[34, 92, 117, 100, 56, 48, 48, 34]⟩, Value.string ⟨#[34, 92, 117, 100, 99, 48, 48, 34]⟩, Value.string ⟨#[34, 92, 117, 100, 56, 48, 48, 92, 117, 48, 48, 52, 49, 34]⟩, Value.string ⟨#[34, 255, 34]⟩, Value.string ⟨#[91]⟩, Value.string ⟨#[91, 49]⟩, Value.string ⟨#[91, 49, 44, 93]⟩, Value.string ⟨#[91, 44, 49, 93]⟩, Value.string ⟨#[91, 49, 32, 50, 93]⟩, Value.string ⟨#[123]⟩, Value.string ⟨#[123, 34, 97, 34, 125]⟩, Value.string ⟨#[123, 34, 97, 34, 58, 125]⟩, Value.string ⟨#[123, 34, 97, 34, 58, 49, 44, 125]⟩, Value.string ⟨#[123, 97, 58, 49, 125]⟩, Value.string ⟨#[123, 34, 98, 34, 58, 49, 44, 34, 97, 34, 58, 49, 125]⟩, Value.string ⟨#[123, 34, 97, 34, 58, 49, 44, 34, 97, 34, 58, 49, 125]⟩, Value.string ⟨#[123, 34, 34, 58, 49, 125]⟩, Value.string ⟨#[49, 32, 49]⟩, Value.string ⟨#[91, 91, 91, 91, 91, 91, 91, 91, 49, 93, 93, 93, 93, 93, 93, 93, 93]⟩, Value.string ⟨#[39, 97, 39]⟩, Value.string ⟨#[78, 97, 78]⟩] : List Value).length, ([Value.string ⟨#[]⟩, Value.string ⟨#[32]⟩, Value.string ⟨#[110, 117, 108]⟩, Value.string ⟨#[110, 117, 108, 108, 108]⟩, Value.string ⟨#[84, 114, 117, 101]⟩, Value.string ⟨#[48, 49]⟩, Value.string ⟨#[45]⟩, Value.string ⟨#[43, 49]⟩, Value.string ⟨#[49, 46]⟩, Value.string ⟨#[49, 46, 48]⟩, Value.string ⟨#[49, 101, 53]⟩, Value.string ⟨#[57, 48, 48, 55, 49, 57, 57, 50, 53, 52, 55, 52, 48, 57, 57, 50]⟩, Value.string ⟨#[34]⟩, Value.string ⟨#[34, 97]⟩, Value.string ⟨#[34, 10, 34]⟩, Value.string ⟨#[34, 92, 120, 34]⟩, Value.string ⟨#[34, 92, 117, 49, 50, 34]⟩, Value.string ⟨#[34, 92, 117, 100, 56, 48, 48, 34]⟩, Value.string ⟨#[34, 92, 117, 100, 99, 48, 48, 34]⟩, Value.string ⟨#[34, 92, 117, 100, 56, 48, 48, 92, 117, 48, 48, 52, 49, 34]⟩, Value.string ⟨#[34, 255, 34]⟩, Value.string ⟨#[91]⟩, Value.string ⟨#[91, 49]⟩, Value.string ⟨#[91, 49, 44, 93]⟩, Value.string ⟨#[91, 44, 49, 93]⟩, Value.string ⟨#[91, 49, 32, 50, 93]⟩, Value.string ⟨#[123]⟩, Value.string ⟨#[123, 34, 97, 34, 125]⟩, Value.string ⟨#[123, 34, 97, 34, 58, 125]⟩, Value.string ⟨#[123, 34, 97, 34, 58, 49, 44, 125]⟩, Value.string ⟨#[123, 97, 58, 49, 125]⟩, Value.string ⟨#[123, 34, 98, 34, 58, 49, 44, 34, 97, 34, 58, 49, 125]⟩, Value.string ⟨#[123, 34, 97, 34, 58, 49, 44, 34, 97, 34, 58, 49, 125]⟩, Value.string ⟨#[123, 34, 34, 58, 49, 125]⟩, Value.string ⟨#[49, 32, 49]⟩, Value.string ⟨#[91, 91, 91, 91, 91, 91, 91, 91, 49, 93, 93, 93, 93, 93, 93, 93, 93]⟩, Value.string ⟨#[39, 97, 39]⟩, Value.string ⟨#[78, 97, 78]⟩] : List Value)[q]'h = .string nm) ∧ Js.get nm.data.toList = none :=
  match q, hq with
  | 0, _ => ⟨_, fun _ => rfl, by kernel_rfl⟩
  | 1, _ => ⟨_, fun _ => rfl, by kernel_rfl⟩
  | 2, _ => ⟨_, fun _ => rfl, by kernel_rfl⟩
  | 3, _ => ⟨_, fun _ => rfl, by kernel_rfl⟩
  | 4, _ => ⟨_, fun _ => rfl, by kernel_rfl⟩
  | 5, _ => ⟨_, fun _ => rfl, by kernel_rfl⟩
  | 6, _ => ⟨_, fun _ => rfl, by kernel_rfl⟩
  | 7, _ => ⟨_, fun _ => rfl, by kernel_rfl⟩
  | 8, _ => ⟨_, fun _ => rfl, by kernel_rfl⟩
  | 9, _ => ⟨_, fun _ => rfl, by kernel_rfl⟩
  | 10, _ => ⟨_, fun _ => rfl, by kernel_rfl⟩
  | 11, _ => ⟨_, fun _ => rfl, by kernel_rfl⟩
  | 12, _ => ⟨_, fun _ => rfl, by kernel_rfl⟩
  | 13, _ => ⟨_, fun _ => rfl, by kernel_rfl⟩
  | 14, _ => ⟨_, fun _ => rfl, by kernel_rfl⟩
  | 15, _ => ⟨_, fun _ => rfl, by kernel_rfl⟩
  | 16, _ => ⟨_, fun _ => rfl, by kernel_rfl⟩
  | 17, _ => ⟨_, fun _ => rfl, by kernel_rfl⟩
  | 18, _ => ⟨_, fun _ => rfl, by kernel_rfl⟩
  | 19, _ => ⟨_, fun _ => rfl, by kernel_rfl⟩
  | 20, _ => ⟨_, fun _ => rfl, by kernel_rfl⟩
  | 21, _ => ⟨_, fun _ => rfl, by kernel_rfl⟩
  | 22, _ => ⟨_, fun _ => rfl, by kernel_rfl⟩
  | 23, _ => ⟨_, fun _ => rfl, by kernel_rfl⟩
  | 24, _ => ⟨_, fun _ => rfl, by kernel_rfl⟩
  | 25, _ => ⟨_, fun _ => rfl, by kernel_rfl⟩
  | 26, _ => ⟨_, fun _ => rfl, by kernel_rfl⟩
  | 27, _ => ⟨_, fun _ => rfl, by kernel_rfl⟩
  | 28, _ => ⟨_, fun _ => rfl, by kernel_rfl⟩
  | 29, _ => ⟨_, fun _ => rfl, by kernel_rfl⟩
  | 30, _ => ⟨_, fun _ => rfl, by kernel_rfl⟩
  | 31, _ => ⟨_, fun _ => rfl, by kernel_rfl⟩
  | 32, _ => ⟨_, fun _ => rfl, by kernel_rfl⟩
  | 33, _ => ⟨_, fun _ => rfl, by kernel_rfl⟩
  | 34, _ => ⟨_, fun _ => rfl, by kernel_rfl⟩
  | 35, _ => ⟨_, fun _ => rfl, by kernel_rfl⟩
  | 36, _ => ⟨_, fun _ => rfl, by kernel_rfl⟩
  | 37, _ => ⟨_, fun _ => rfl, by kernel_rfl⟩
  | n + 38, h => absurd h (by omega)
set_option maxRecDepth 100000 in
set_option maxHeartbeats 4000000 in
theorem Law.jsonForms (wh : Int) (w : World) (hT : Jt w) : Calls Tryd.prog 3 #[.int .i64 wh] w fun e w' => e = .returned (.bool true) ∧ Below w.heap.size w w' := by
  have aw := Ja.awake w hT
  obtain ⟨q, hq, hz⟩ : ∃ q : Nat, q < 38 ∧ wrap64 ((IntKind.u64.wrap wh).tmod 38) = (q : Int) := by
    have h1 : 0 ≤ IntKind.u64.wrap wh := by
      rw [IntKind.wrap_u64]
      omega
    have h2 : (IntKind.u64.wrap wh).tmod 38 = IntKind.u64.wrap wh % 38 := Int.tmod_eq_emod_of_nonneg h1
    refine ⟨(IntKind.u64.wrap wh % 38).toNat, by omega, ?_⟩
    rw [h2]
    unfold wrap64
    omega
  obtain ⟨nm, hnm, hN⟩ := Jf.named q hq
  have gt := fun u hu => Jc.get_to (s := nm) (t := Js.leaf 0 0 0 ⟨#[]⟩) (x := 1000) (by unfold Js.got; rw [hN]; rfl) (by unfold Js.gerr; rw [hN]; rfl) u hu
  clear hN
  go_enter Tryd.func3, Tryd.ntmps3
  go_wp2_with (go_at_call 7; refine aw.mono ?_; rintro e w1 ⟨rfl, b1⟩; have B1 := Lib.hid b1; clear b1 aw)
  refine (gt _ (hT.on (Jl.below B1.out _))).mono ?_
  rintro e w2 ⟨v2, rfl, l2, b2⟩
  obtain ⟨ai, c, ak, d, rfl, _⟩ := l2
  have B2 := Lib.hid (Wk.below_step (Jl.below B1.out _) b2)
  clear b2 B1 gt hnm hz
  have er := fun x u => Vn.errno x u
  go_wp2_with (go_at_call 9; refine (er _ _).mono ?_; rintro e w' ⟨rfl, hw⟩; have hw := hw.symm; subst hw)
  go_ret
  exact ⟨rfl, Jl.below B2.out _⟩
end Go.Proofs.YtboalkfagfgnpaaDoor

/-
  THE WALK of the builder's take.
-/
import Derived.Test.YthfobjkdcncoiaaWText
import Derived.Test.YthfobjkdcncoiaaWStart
import Derived.Test.YthfobjkdcncoiaaWEnd
namespace Go.Proofs.Ythfobjkdcncoiaa
open Go.RowKit
theorem Pg.liesAll' {w : World} {R : Nat → Prop} {al : List (ByteArray × ByteArray)} {v : Value} (h : Ak.Lies w R al v) : Ak.Lies w (· < w.heap.size) al v := by
  obtain ⟨a', d', e, h1, h2, hx⟩ := h
  refine ⟨a', d', e, h1, h2, fun j x hj => ?_⟩
  obtain ⟨b', o', e', _, c1, c2⟩ := hx j x hj
  exact ⟨b', o', e', World.block_lt_of_cell? _ _ c1, c1, c2⟩
set_option maxRecDepth 100000 in
set_option maxHeartbeats 4000000 in
theorem Pg.take0 (base : Nat) (m : Bt) (bs : ByteArray) (t : Tk) (aa : Option Addr) (an ad : Nat) (R : Nat → Prop) (w : World) (g : Nat) (ov pv tv : Value) (h : Pm.At base w g m bs ov pv tv) (hok : Bt.Ok m) (hs : m.out.length ≤ 1000000) (hz : bs.size + t.text.size ≤ 140737488355328) (_hat : Ak.Lies w R t.attrs (.slice aa an ad)) (_hal : t.attrs.length ≤ 32) (hk : t.kind = 0) :
    Calls Try.prog 20 #[.pointer (some ⟨g, 0, none⟩), .agg #[.int .i64 t.kind, .string t.name, .string t.text, .slice aa an ad, .bool t.self]] w fun e w' => e = .returned (.tuple #[]) ∧ ∃ ov' pv' tv', Pm.At base w' g (Pb.take m bs t).1 (Pb.take m bs t).2 ov' pv' tv' ∧ Pm.Kept w w' (Pm.Mine g ov pv tv) (Pm.Mine g ov' pv' tv') := by
  have t0 : (t.kind == 0) = true := by rw [hk]; rfl
  have hT : Pb.take m bs t = if t.text = Ts.e then (m, bs) else if (m.nth m.last).kind = 2 ∧ (m.nth m.last).parent = (m.top : Int) then (m, bs ++ t.text) else ((Pb.flush m bs).node ⟨2, Ts.e, Ts.e, [], 0⟩, Ts.e ++ t.text) := by unfold Pb.take; rw [if_pos hk]
  clear hk
  obtain ⟨M, hM⟩ : ∃ M, Pb.take m bs t = M := ⟨_, rfl⟩
  rw [hM] at hT ⊢
  have cl : ∀ u, Below w.heap.size w u → Calls Try.prog 27 #[.pointer (some ⟨g, 0, none⟩), .string t.text] u fun e w' => e = .returned (.tuple #[]) ∧ ∃ ov' tv', Pm.At base w' g M.1 M.2 ov' pv tv' ∧ Pm.Kept u w' (Pm.Mine g ov pv tv) (Pm.Mine g ov' pv tv') := fun u hu => Pg.addText base m bs t.text u g ov pv tv (h.on hu) hok hs hz M.1 M.2 hT
  have HB : Hid (∀ o, Below w.heap.size w (w.alloc o)) := fun o => (Below.refl _ _).alloc (Nat.le_refl _) _
  clear hM hT h hok hs hz
  go_enter Try.func20, Try.ntmps20
  go_wp2_with (go_at_call 27; refine (cl _ (HB.out _)).mono ?_; rintro e w2 ⟨rfl, ov2, tv2, hA2, hK2⟩; clear cl)
  go_end0
  exact ⟨rfl, _, _, _, hA2, (Pm.Kept.of _ (HB.out _)).trans hK2⟩
set_option maxRecDepth 100000 in
set_option maxHeartbeats 4000000 in
theorem Pg.take3 (base : Nat) (m : Bt) (bs : ByteArray) (t : Tk) (aa : Option Addr) (an ad : Nat) (R : Nat → Prop) (w : World) (g : Nat) (ov pv tv : Value) (h : Pm.At base w g m bs ov pv tv) (hok : Bt.Ok m) (hs : m.out.length ≤ 1000000) (hz : bs.size + t.text.size ≤ 140737488355328) (_hat : Ak.Lies w R t.attrs (.slice aa an ad)) (_hal : t.attrs.length ≤ 32) (hk : t.kind = 3) :
    Calls Try.prog 20 #[.pointer (some ⟨g, 0, none⟩), .agg #[.int .i64 t.kind, .string t.name, .string t.text, .slice aa an ad, .bool t.self]] w fun e w' => e = .returned (.tuple #[]) ∧ ∃ ov' pv' tv', Pm.At base w' g (Pb.take m bs t).1 (Pb.take m bs t).2 ov' pv' tv' ∧ Pm.Kept w w' (Pm.Mine g ov pv tv) (Pm.Mine g ov' pv' tv') := by
  have t0 : (t.kind == 0) = false := by rw [hk]; rfl
  have t3 : (t.kind == 3) = true := by rw [hk]; rfl
  have hT : Pb.take m bs t = ((Pb.flush m bs).node ⟨3, Ts.e, t.text, [], 0⟩, Ts.e) := by unfold Pb.take; rw [if_neg (by rw [hk]; decide), if_pos hk]
  clear hk
  obtain ⟨M, hM⟩ : ∃ M, Pb.take m bs t = M := ⟨_, rfl⟩
  rw [hM] at hT ⊢
  have cl : ∀ u, Below w.heap.size w u → Calls Try.prog 28 #[.pointer (some ⟨g, 0, none⟩), .agg #[.int .i64 3, .string ⟨#[]⟩, .string t.text, .slice none 0 0, .int .i64 0]] u fun e w' => e = .returned (.tuple #[]) ∧ ∃ ov' tv', Pm.At base w' g M.1 M.2 ov' pv tv' ∧ Pm.Kept u w' (Pm.Mine g ov pv tv) (Pm.Mine g ov' pv tv') := fun u hu => by
    rw [hT]
    exact Pg.addNode base m bs ⟨3, Ts.e, t.text, [], 0⟩ none 0 0 u g ov pv tv (h.on hu) hok hs (by omega) (Ak.Lies.nil _ _)
  have HB : Hid (∀ o, Below w.heap.size w (w.alloc o)) := fun o => (Below.refl _ _).alloc (Nat.le_refl _) _
  clear hM hT h hok hs hz
  go_enter Try.func20, Try.ntmps20
  go_wp2_with (go_at_call 28; refine (cl _ (HB.out _)).mono ?_; rintro e w2 ⟨rfl, ov2, tv2, hA2, hK2⟩; clear cl)
  go_end0
  exact ⟨rfl, _, _, _, hA2, (Pm.Kept.of _ (HB.out _)).trans hK2⟩
set_option maxRecDepth 100000 in
set_option maxHeartbeats 4000000 in
theorem Pg.take1 (base : Nat) (m : Bt) (bs : ByteArray) (t : Tk) (aa : Option Addr) (an ad : Nat) (R : Nat → Prop) (w : World) (g : Nat) (ov pv tv : Value) (h : Pm.At base w g m bs ov pv tv) (hok : Bt.Ok m) (hs : m.out.length ≤ 1000000) (hz : bs.size + t.text.size ≤ 140737488355328) (hat : Ak.Lies w R t.attrs (.slice aa an ad)) (hal : t.attrs.length ≤ 32) (hk : t.kind = 1) :
    Calls Try.prog 20 #[.pointer (some ⟨g, 0, none⟩), .agg #[.int .i64 t.kind, .string t.name, .string t.text, .slice aa an ad, .bool t.self]] w fun e w' => e = .returned (.tuple #[]) ∧ ∃ ov' pv' tv', Pm.At base w' g (Pb.take m bs t).1 (Pb.take m bs t).2 ov' pv' tv' ∧ Pm.Kept w w' (Pm.Mine g ov pv tv) (Pm.Mine g ov' pv' tv') := by
  have t0 : (t.kind == 0) = false := by rw [hk]; rfl
  have t3 : (t.kind == 3) = false := by rw [hk]; rfl
  have t1 : (t.kind == 1) = true := by rw [hk]; rfl
  have hT : Pb.take m bs t = (if Ts.kind t.name ≠ 1 ∧ m.opn.length ≤ 32 then { (Pb.flush m bs).node ⟨1, t.name, Ts.e, t.attrs, 0⟩ with opn := m.opn ++ [m.out.length] } else (Pb.flush m bs).node ⟨1, t.name, Ts.e, t.attrs, 0⟩, Ts.e) := by
    unfold Pb.take
    rw [if_neg (by rw [hk]; decide), if_neg (by rw [hk]; decide), if_pos hk]
    split <;> rfl
  clear hk
  obtain ⟨M, hM⟩ : ∃ M, Pb.take m bs t = M := ⟨_, rfl⟩
  rw [hM] at hT ⊢
  have cl : ∀ u, Below w.heap.size w u → Calls Try.prog 29 #[.pointer (some ⟨g, 0, none⟩), .agg #[.int .i64 t.kind, .string t.name, .string t.text, .slice aa an ad, .bool t.self]] u fun e w' => e = .returned (.tuple #[]) ∧ ∃ ov' pv' tv', Pm.At base w' g M.1 M.2 ov' pv' tv' ∧ Pm.Kept u w' (Pm.Mine g ov pv tv) (Pm.Mine g ov' pv' tv') := fun u hu => by
    rw [hT]
    exact Pg.start base m bs t aa an ad (fun _ => True) u g ov pv tv (h.on hu) hok hs (by omega) ((Pg.liesAll' hat).on fun k hk => ⟨trivial, hu.block k hk⟩) hal _ rfl
  have HB : Hid (∀ o, Below w.heap.size w (w.alloc o)) := fun o => (Below.refl _ _).alloc (Nat.le_refl _) _
  clear hM hT h hok hs hz hat hal
  go_enter Try.func20, Try.ntmps20
  go_wp2_with (go_at_call 29; refine (cl _ (HB.out _)).mono ?_; rintro e w2 ⟨rfl, ov2, pv2, tv2, hA2, hK2⟩; clear cl)
  go_end0
  exact ⟨rfl, _, _, _, hA2, (Pm.Kept.of _ (HB.out _)).trans hK2⟩
set_option maxRecDepth 100000 in
set_option maxHeartbeats 4000000 in
theorem Pg.take2 (base : Nat) (m : Bt) (bs : ByteArray) (t : Tk) (aa : Option Addr) (an ad : Nat) (R : Nat → Prop) (w : World) (g : Nat) (ov pv tv : Value) (h : Pm.At base w g m bs ov pv tv) (hok : Bt.Ok m) (hs : m.out.length ≤ 1000000) (_hz : bs.size + t.text.size ≤ 140737488355328) (_hat : Ak.Lies w R t.attrs (.slice aa an ad)) (_hal : t.attrs.length ≤ 32) (hk : t.kind = 2) :
    Calls Try.prog 20 #[.pointer (some ⟨g, 0, none⟩), .agg #[.int .i64 t.kind, .string t.name, .string t.text, .slice aa an ad, .bool t.self]] w fun e w' => e = .returned (.tuple #[]) ∧ ∃ ov' pv' tv', Pm.At base w' g (Pb.take m bs t).1 (Pb.take m bs t).2 ov' pv' tv' ∧ Pm.Kept w w' (Pm.Mine g ov pv tv) (Pm.Mine g ov' pv' tv') := by
  have t0 : (t.kind == 0) = false := by rw [hk]; rfl
  have t3 : (t.kind == 3) = false := by rw [hk]; rfl
  have t1 : (t.kind == 1) = false := by rw [hk]; rfl
  have t2 : (t.kind == 2) = true := by rw [hk]; rfl
  have hT : Pb.take m bs t = (if m.find t.name m.opn.length = 0 then m else { m with opn := m.opn.take (m.find t.name m.opn.length) }, bs) := by
    unfold Pb.take
    rw [if_neg (by rw [hk]; decide), if_neg (by rw [hk]; decide), if_neg (by rw [hk]; decide), if_pos hk]
    split <;> rfl
  clear hk
  obtain ⟨M, hM⟩ : ∃ M, Pb.take m bs t = M := ⟨_, rfl⟩
  rw [hM] at hT ⊢
  have cl : ∀ u, Below w.heap.size w u → Calls Try.prog 30 #[.pointer (some ⟨g, 0, none⟩), .string t.name] u fun e w' => e = .returned (.tuple #[]) ∧ ∃ pv', Pm.At base w' g M.1 M.2 ov pv' tv ∧ Pm.Kept u w' (Pm.Mine g ov pv tv) (Pm.Mine g ov pv' tv) := fun u hu => by
    rw [hT]
    exact Pg.end base m bs t.name u g ov pv tv (h.on hu) hok hs _ rfl
  have HB : Hid (∀ o, Below w.heap.size w (w.alloc o)) := fun o => (Below.refl _ _).alloc (Nat.le_refl _) _
  clear hM hT h hok hs
  go_enter Try.func20, Try.ntmps20
  go_wp2_with (go_at_call 30; refine (cl _ (HB.out _)).mono ?_; rintro e w2 ⟨rfl, pv2, hA2, hK2⟩; clear cl)
  go_end0
  exact ⟨rfl, _, _, _, hA2, (Pm.Kept.of _ (HB.out _)).trans hK2⟩
theorem Pg.take (base : Nat) (m : Bt) (bs : ByteArray) (t : Tk) (aa : Option Addr) (an ad : Nat) (R : Nat → Prop) (w : World) (g : Nat) (ov pv tv : Value) (h : Pm.At base w g m bs ov pv tv) (hok : Bt.Ok m) (hs : m.out.length ≤ 1000000) (hz : bs.size + t.text.size ≤ 140737488355328) (hat : Ak.Lies w R t.attrs (.slice aa an ad)) (hmay : t.May) :
    Calls Try.prog 20 #[.pointer (some ⟨g, 0, none⟩), .agg #[.int .i64 t.kind, .string t.name, .string t.text, .slice aa an ad, .bool t.self]] w fun e w' => e = .returned (.tuple #[]) ∧ ∃ ov' pv' tv', Pm.At base w' g (Pb.take m bs t).1 (Pb.take m bs t).2 ov' pv' tv' ∧ Pm.Kept w w' (Pm.Mine g ov pv tv) (Pm.Mine g ov' pv' tv') := by
  rcases hmay with ⟨k, _, ha, _⟩ | ⟨k, _, _, hal, _⟩
  · have hal : t.attrs.length ≤ 32 := by rw [ha]; exact Nat.zero_le _
    rcases k with k | k
    · exact Pg.take0 base m bs t aa an ad R w g ov pv tv h hok hs hz hat hal k
    · exact Pg.take3 base m bs t aa an ad R w g ov pv tv h hok hs hz hat hal k
  · rcases k with k | k
    · exact Pg.take1 base m bs t aa an ad R w g ov pv tv h hok hs hz hat hal k
    · exact Pg.take2 base m bs t aa an ad R w g ov pv tv h hok hs hz hat hal k.1
end Go.Proofs.Ythfobjkdcncoiaa

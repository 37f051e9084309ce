/-
  THE WALK of the builder's take.
-/
import Derived.Test.YtblpkjlodncpeaaGreatDoorBWNodetoWEnd
import Derived.Test.YtblpkjlodncpeaaGreatDoorBUNdtoUMay
namespace Go.Proofs.YtblpkjlodncpeaaGreatDoor
open Go.RowKit
theorem Pg.liesAll' {w : World} {R : Nat → Prop} {al : List (ByteArray × ByteArray)} {v : Value} (h : Ak.Lies w R al v) : Ak.Lies w (· < w.heap.size) al v := by
 obtain ⟨a', d', e, h1, h2, hx⟩ := h
 refine ⟨a', d', e, h1, h2, fun j x hj => ?_⟩
 obtain ⟨b', o', e', _, c1, c2⟩ := hx j x hj
 exact ⟨b', o', e', World.block_lt_of_cell? _ _ c1, c1, c2⟩
set_option maxRecDepth 100000 in
set_option maxHeartbeats 4000000 in
theorem Pg.take0 (base : Nat) (m : Bt) (bs : ByteArray) (t : Tk) (aa : Option Addr) (an ad : Nat) (R : Nat → Prop) (w : World) (g : Nat) (ov pv tv : Value) (h : Pm.At base w g m bs ov pv tv) (hok : Bt.Ok m) (hs : m.out.length ≤ 1000000) (hz : bs.size + t.text.size ≤ 140737488355328) (_hat : Ak.Lies w R t.attrs (.slice aa an ad)) (_hal : t.attrs.length ≤ 32) (hk : t.kind = 0) :
  Calls Tryz.prog 38 #[.pointer (some ⟨g, 0, none⟩), .agg #[.int .i64 t.kind, .string t.name, .string t.text, .slice aa an ad, .bool t.self]] w fun e w' => e = .returned (.tuple #[]) ∧ ∃ ov' pv' tv', Pm.At base w' g (Pb.take m bs t).1 (Pb.take m bs t).2 ov' pv' tv' ∧ Pm.Kept w w' (Pm.Mine g ov pv tv) (Pm.Mine g ov' pv' tv') := by
 have t0 : (t.kind == 0) = true := by rw [hk]; rfl
 have hT : Pb.take m bs t = if t.text = Ts.e then (m, bs) else if (m.nth m.last).kind = 2 ∧ (m.nth m.last).parent = (m.top : Int) then (m, bs ++ t.text) else ((Pb.flush m bs).node ⟨2, Ts.e, Ts.e, [], 0⟩, Ts.e ++ t.text) := by unfold Pb.take; rw [if_pos hk]
 clear hk
 obtain ⟨M, hM⟩ : ∃ M, Pb.take m bs t = M := ⟨_, rfl⟩
 rw [hM] at hT ⊢
 have cl : ∀ u, Below w.heap.size w u → Calls Tryz.prog 83 #[.pointer (some ⟨g, 0, none⟩), .string t.text] u fun e w' => e = .returned (.tuple #[]) ∧ ∃ ov' tv', Pm.At base w' g M.1 M.2 ov' pv tv' ∧ Pm.Kept u w' (Pm.Mine g ov pv tv) (Pm.Mine g ov' pv tv') := fun u hu => Pg.addText base m bs t.text u g ov pv tv (h.on hu) hok hs hz M.1 M.2 hT
 have HB : Hid (∀ o, Below w.heap.size w (w.alloc o)) := fun o => (Below.refl _ _).alloc (Nat.le_refl _) _
 clear hM hT h hok hs hz
 go_enter Tryz.func38, Tryz.ntmps38
 go_wp2_with (go_at_call 83; refine (cl _ (HB.out _)).mono ?_; rintro e w2 ⟨rfl, ov2, tv2, hA2, hK2⟩; clear cl)
 go_end0
 exact ⟨rfl, _, _, _, hA2, (Pm.Kept.of _ (HB.out _)).trans hK2⟩
set_option maxRecDepth 100000 in
set_option maxHeartbeats 4000000 in
theorem Pg.take3 (base : Nat) (m : Bt) (bs : ByteArray) (t : Tk) (aa : Option Addr) (an ad : Nat) (R : Nat → Prop) (w : World) (g : Nat) (ov pv tv : Value) (h : Pm.At base w g m bs ov pv tv) (hok : Bt.Ok m) (hs : m.out.length ≤ 1000000) (hz : bs.size + t.text.size ≤ 140737488355328) (_hat : Ak.Lies w R t.attrs (.slice aa an ad)) (_hal : t.attrs.length ≤ 32) (hk : t.kind = 3) :
  Calls Tryz.prog 38 #[.pointer (some ⟨g, 0, none⟩), .agg #[.int .i64 t.kind, .string t.name, .string t.text, .slice aa an ad, .bool t.self]] w fun e w' => e = .returned (.tuple #[]) ∧ ∃ ov' pv' tv', Pm.At base w' g (Pb.take m bs t).1 (Pb.take m bs t).2 ov' pv' tv' ∧ Pm.Kept w w' (Pm.Mine g ov pv tv) (Pm.Mine g ov' pv' tv') := by
 have t0 : (t.kind == 0) = false := by rw [hk]; rfl
 have t3 : (t.kind == 3) = true := by rw [hk]; rfl
 have hT : Pb.take m bs t = ((Pb.flush m bs).node ⟨3, Ts.e, t.text, [], 0⟩, Ts.e) := by unfold Pb.take; rw [if_neg (by rw [hk]; decide), if_pos hk]
 clear hk
 obtain ⟨M, hM⟩ : ∃ M, Pb.take m bs t = M := ⟨_, rfl⟩
 rw [hM] at hT ⊢
 have cl : ∀ u, Below w.heap.size w u → Calls Tryz.prog 84 #[.pointer (some ⟨g, 0, none⟩), .agg #[.int .i64 3, .string ⟨#[]⟩, .string t.text, .slice none 0 0, .int .i64 0]] u fun e w' => e = .returned (.tuple #[]) ∧ ∃ ov' tv', Pm.At base w' g M.1 M.2 ov' pv tv' ∧ Pm.Kept u w' (Pm.Mine g ov pv tv) (Pm.Mine g ov' pv tv') := fun u hu => by
  rw [hT]
  exact Pg.addNode base m bs ⟨3, Ts.e, t.text, [], 0⟩ none 0 0 u g ov pv tv (h.on hu) hok hs (by omega) (Ak.Lies.nil _ _)
 have HB : Hid (∀ o, Below w.heap.size w (w.alloc o)) := fun o => (Below.refl _ _).alloc (Nat.le_refl _) _
 clear hM hT h hok hs hz
 go_enter Tryz.func38, Tryz.ntmps38
 go_wp2_with (go_at_call 84; refine (cl _ (HB.out _)).mono ?_; rintro e w2 ⟨rfl, ov2, tv2, hA2, hK2⟩; clear cl)
 go_end0
 exact ⟨rfl, _, _, _, hA2, (Pm.Kept.of _ (HB.out _)).trans hK2⟩
set_option maxRecDepth 100000 in
set_option maxHeartbeats 4000000 in
theorem Pg.take1 (base : Nat) (m : Bt) (bs : ByteArray) (t : Tk) (aa : Option Addr) (an ad : Nat) (R : Nat → Prop) (w : World) (g : Nat) (ov pv tv : Value) (h : Pm.At base w g m bs ov pv tv) (hok : Bt.Ok m) (hs : m.out.length ≤ 1000000) (hz : bs.size + t.text.size ≤ 140737488355328) (hat : Ak.Lies w R t.attrs (.slice aa an ad)) (hal : t.attrs.length ≤ 32) (hk : t.kind = 1) :
  Calls Tryz.prog 38 #[.pointer (some ⟨g, 0, none⟩), .agg #[.int .i64 t.kind, .string t.name, .string t.text, .slice aa an ad, .bool t.self]] w fun e w' => e = .returned (.tuple #[]) ∧ ∃ ov' pv' tv', Pm.At base w' g (Pb.take m bs t).1 (Pb.take m bs t).2 ov' pv' tv' ∧ Pm.Kept w w' (Pm.Mine g ov pv tv) (Pm.Mine g ov' pv' tv') := by
 have t0 : (t.kind == 0) = false := by rw [hk]; rfl
 have t3 : (t.kind == 3) = false := by rw [hk]; rfl
 have t1 : (t.kind == 1) = true := by rw [hk]; rfl
 have hT : Pb.take m bs t = (if Ts.kind t.name ≠ 1 ∧ m.opn.length ≤ 32 then { (Pb.flush m bs).node ⟨1, t.name, Ts.e, t.attrs, 0⟩ with opn := m.opn ++ [m.out.length] } else (Pb.flush m bs).node ⟨1, t.name, Ts.e, t.attrs, 0⟩, Ts.e) := by
  unfold Pb.take
  rw [if_neg (by rw [hk]; decide), if_neg (by rw [hk]; decide), if_pos hk]
  split <;> rfl
 clear hk
 obtain ⟨M, hM⟩ : ∃ M, Pb.take m bs t = M := ⟨_, rfl⟩
 rw [hM] at hT ⊢
 have cl : ∀ u, Below w.heap.size w u → Calls Tryz.prog 85 #[.pointer (some ⟨g, 0, none⟩), .agg #[.int .i64 t.kind, .string t.name, .string t.text, .slice aa an ad, .bool t.self]] u fun e w' => e = .returned (.tuple #[]) ∧ ∃ ov' pv' tv', Pm.At base w' g M.1 M.2 ov' pv' tv' ∧ Pm.Kept u w' (Pm.Mine g ov pv tv) (Pm.Mine g ov' pv' tv') := fun u hu => by
  rw [hT]
  exact Pg.start base m bs t aa an ad (fun _ => True) u g ov pv tv (h.on hu) hok hs (by omega) ((Pg.liesAll' hat).on fun k hk => ⟨trivial, hu.block k hk⟩) hal _ rfl
 have HB : Hid (∀ o, Below w.heap.size w (w.alloc o)) := fun o => (Below.refl _ _).alloc (Nat.le_refl _) _
 clear hM hT h hok hs hz hat hal
 go_enter Tryz.func38, Tryz.ntmps38
 go_wp2_with (go_at_call 85; refine (cl _ (HB.out _)).mono ?_; rintro e w2 ⟨rfl, ov2, pv2, tv2, hA2, hK2⟩; clear cl)
 go_end0
 exact ⟨rfl, _, _, _, hA2, (Pm.Kept.of _ (HB.out _)).trans hK2⟩
set_option maxRecDepth 100000 in
set_option maxHeartbeats 4000000 in
theorem Pg.take2 (base : Nat) (m : Bt) (bs : ByteArray) (t : Tk) (aa : Option Addr) (an ad : Nat) (R : Nat → Prop) (w : World) (g : Nat) (ov pv tv : Value) (h : Pm.At base w g m bs ov pv tv) (hok : Bt.Ok m) (hs : m.out.length ≤ 1000000) (_hz : bs.size + t.text.size ≤ 140737488355328) (_hat : Ak.Lies w R t.attrs (.slice aa an ad)) (_hal : t.attrs.length ≤ 32) (hk : t.kind = 2) :
  Calls Tryz.prog 38 #[.pointer (some ⟨g, 0, none⟩), .agg #[.int .i64 t.kind, .string t.name, .string t.text, .slice aa an ad, .bool t.self]] w fun e w' => e = .returned (.tuple #[]) ∧ ∃ ov' pv' tv', Pm.At base w' g (Pb.take m bs t).1 (Pb.take m bs t).2 ov' pv' tv' ∧ Pm.Kept w w' (Pm.Mine g ov pv tv) (Pm.Mine g ov' pv' tv') := by
 have t0 : (t.kind == 0) = false := by rw [hk]; rfl
 have t3 : (t.kind == 3) = false := by rw [hk]; rfl
 have t1 : (t.kind == 1) = false := by rw [hk]; rfl
 have t2 : (t.kind == 2) = true := by rw [hk]; rfl
 have hT : Pb.take m bs t = (if m.find t.name m.opn.length = 0 then m else { m with opn := m.opn.take (m.find t.name m.opn.length) }, bs) := by
  unfold Pb.take
  rw [if_neg (by rw [hk]; decide), if_neg (by rw [hk]; decide), if_neg (by rw [hk]; decide), if_pos hk]
  split <;> rfl
 clear hk
 obtain ⟨M, hM⟩ : ∃ M, Pb.take m bs t = M := ⟨_, rfl⟩
 rw [hM] at hT ⊢
 have cl : ∀ u, Below w.heap.size w u → Calls Tryz.prog 86 #[.pointer (some ⟨g, 0, none⟩), .string t.name] u fun e w' => e = .returned (.tuple #[]) ∧ ∃ pv', Pm.At base w' g M.1 M.2 ov pv' tv ∧ Pm.Kept u w' (Pm.Mine g ov pv tv) (Pm.Mine g ov pv' tv) := fun u hu => by
  rw [hT]
  exact Pg.end base m bs t.name u g ov pv tv (h.on hu) hok hs _ rfl
 have HB : Hid (∀ o, Below w.heap.size w (w.alloc o)) := fun o => (Below.refl _ _).alloc (Nat.le_refl _) _
 clear hM hT h hok hs
 go_enter Tryz.func38, Tryz.ntmps38
 go_wp2_with (go_at_call 86; refine (cl _ (HB.out _)).mono ?_; rintro e w2 ⟨rfl, pv2, hA2, hK2⟩; clear cl)
 go_end0
 exact ⟨rfl, _, _, _, hA2, (Pm.Kept.of _ (HB.out _)).trans hK2⟩
theorem Pg.take (base : Nat) (m : Bt) (bs : ByteArray) (t : Tk) (aa : Option Addr) (an ad : Nat) (R : Nat → Prop) (w : World) (g : Nat) (ov pv tv : Value) (h : Pm.At base w g m bs ov pv tv) (hok : Bt.Ok m) (hs : m.out.length ≤ 1000000) (hz : bs.size + t.text.size ≤ 140737488355328) (hat : Ak.Lies w R t.attrs (.slice aa an ad)) (hmay : t.May) :
  Calls Tryz.prog 38 #[.pointer (some ⟨g, 0, none⟩), .agg #[.int .i64 t.kind, .string t.name, .string t.text, .slice aa an ad, .bool t.self]] w fun e w' => e = .returned (.tuple #[]) ∧ ∃ ov' pv' tv', Pm.At base w' g (Pb.take m bs t).1 (Pb.take m bs t).2 ov' pv' tv' ∧ Pm.Kept w w' (Pm.Mine g ov pv tv) (Pm.Mine g ov' pv' tv') := by
 rcases hmay with ⟨k, _, ha, _⟩ | ⟨k, _, _, hal, _⟩
 ·
  have hal : t.attrs.length ≤ 32 := by rw [ha]; exact Nat.zero_le _
  rcases k with k | k
  ·
   exact Pg.take0 base m bs t aa an ad R w g ov pv tv h hok hs hz hat hal k
  ·
   exact Pg.take3 base m bs t aa an ad R w g ov pv tv h hok hs hz hat hal k
 ·
  rcases k with k | k
  ·
   exact Pg.take1 base m bs t aa an ad R w g ov pv tv h hok hs hz hat hal k
  ·
   exact Pg.take2 base m bs t aa an ad R w g ov pv tv h hok hs hz hat hal k.1
theorem Wa.ba_beq (a b : ByteArray) : (a.toList == b.toList) = decide (a = b) := by
 rw [ByteArray.toList_eq, ByteArray.toList_eq, Bool.eq_iff_iff, beq_iff_eq, decide_eq_true_iff]
 constructor
 ·
  intro h
  cases a; cases b
  simp only at h
  congr 1
  exact Array.toList_inj.1 h
 ·
  rintro rfl; rfl
theorem Wa.isName (n v nm : ByteArray) (q : Nat) (w : World) (hq : w.cell? ⟨q, 0, none⟩ = some (.string nm)) :
  Calls Tryz.prog 115 #[.agg #[.string n, .string v], .pointer (some ⟨q, 0, none⟩)] w fun e w' => e = .returned (.bool (decide (n = nm))) ∧ Below w.heap.size w w' := by
 have hlt := World.block_lt_of_cell? _ _ hq
 simp only at hlt
 have n1 : w.heap.size ≠ q := by omega
 have n2 : q ≠ w.heap.size := by omega
 have hb := Wa.ba_beq n nm
 generalize decide (n = nm) = b at *
 go_enter Tryz.func115, Tryz.ntmps115
 go_wp2
 go_ret
 exact ⟨rfl, (Below.refl _ _).alloc (Nat.le_refl _) _⟩
set_option maxHeartbeats 1000000 in
theorem Wa.indexFunc (al : List (ByteArray × ByteArray)) (a : Option Addr) (d : Nat) (nm : ByteArray) (q : Nat) (w : World) (hl : Ak.Lies w (· < w.heap.size) al (.slice a al.length d)) (hq : w.cell? ⟨q, 0, none⟩ = some (.string nm)) :
  Calls Tryz.prog 139 #[.slice a al.length d, .func (.func 115) #[] #[.pointer (some ⟨q, 0, none⟩)]] w fun e w' => ∃ i : Int, e = .returned (.int .i64 i) ∧ decide (0 ≤ i) = al.any (fun x => decide (x.1 = nm)) ∧ Below w.heap.size w w' := by
 obtain ⟨a', d', e, hd1, hd2, hx⟩ := hl
 injection e with e1 e2 e3
 subst e1
 subst e3
 have hqlt := World.block_lt_of_cell? _ _ hq
 simp only at hqlt
 have hbig : al.length ≤ 9223372036854775807 := by unfold maxLen at hd2; omega
 have HX := Lib.hid hx
 clear hx
 go_enter Tryz.func139, Tryz.ntmps139
 go_wp2
 go_loopw [8] (fun i wr => ∃ k : Nat, k ≤ al.length ∧ i = .int .i64 (k : Int) ∧ Below w.heap.size w wr ∧ Hid ((al.take k).any (fun x => decide (x.1 = nm)) = false)) (fun i _ => al.length - (intOf i).toNat)
 case atStart => exact ⟨0, Nat.zero_le _, rfl, Below.refl _ _, by simp [Hid]⟩
 case round =>
  obtain ⟨k, hk, rfl, hb, HN⟩ := hrel
  by_cases hlt : k < al.length
  ·
   obtain ⟨b, o, rfl, hbl, c1, c2⟩ := HX.out k al[k] (List.getElem?_eq_getElem hlt)
   have k1 := Tp.keep hb c1
   have k2 := Tp.keep hb c2
   have hqr := Tp.keep hb hq
   have hcall := fun u (hu : Below wr.heap.size wr u) => Wa.isName al[k].1 al[k].2 nm q u (Tp.keep hu hqr)
   have HT : Hid (al.take (k + 1) = al.take k ++ [al[k]]) := List.take_succ_eq_append_getElem hlt
   have HA : Hid (decide (al[k].1 = nm) = true → al.any (fun x => decide (x.1 = nm)) = true) := fun hh => List.any_eq_true.2 ⟨al[k], List.getElem_mem hlt, hh⟩
   generalize al[k] = y at *
   cases hy : decide (y.1 = nm) with
   | true =>
    rw [hy] at hcall
    go_wp2_with (go_at_call 115; refine (hcall _ (Below.refl _ _)).mono ?_; rintro e w' ⟨rfl, hb'⟩)
    go_ret
    exact ⟨_, rfl, by rw [HA.out hy]; simp, hb.trans (hb'.mono hb.size)⟩
   | false =>
    rw [hy] at hcall
    go_wp2_with (go_at_call 115; refine (hcall _ (Below.refl _ _)).mono ?_; rintro e w' ⟨rfl, hb'⟩)
    go_roundw
    case rel => exact ⟨k + 1, by omega, by go_num, hb.trans (hb'.mono hb.size), by unfold Hid; rw [HT.out, List.any_append, HN.out]; simp only [List.any_cons, List.any_nil, hy, Bool.or_false]⟩
    case measure => simp [intOf]; omega
  ·
   have hke : k = al.length := by omega
   have HE := Lib.hid hke
   clear hke
   go_wp2
   go_ret
   refine ⟨_, rfl, ?_, hb⟩
   have := HN.out
   rw [HE.out, List.take_length] at this
   rw [this]
   rfl
theorem Wa.containsFunc (al : List (ByteArray × ByteArray)) (a : Option Addr) (d : Nat) (nm : ByteArray) (q : Nat) (w : World) (hl : Ak.Lies w (· < w.heap.size) al (.slice a al.length d)) (hq : w.cell? ⟨q, 0, none⟩ = some (.string nm)) :
  Calls Tryz.prog 116 #[.slice a al.length d, .func (.func 115) #[] #[.pointer (some ⟨q, 0, none⟩)]] w fun e w' => e = .returned (.bool (al.any (fun x => decide (x.1 = nm)))) ∧ Below w.heap.size w w' := by
 have h := fun u => Wa.indexFunc al a d nm q u
 generalize al.any (fun x => decide (x.1 = nm)) = r at *
 go_enter Tryz.func116, Tryz.ntmps116
 go_wp2_with (go_at_call 139; refine (h _ hl hq).mono ?_; rintro e w' ⟨i, rfl, hi, hb⟩)
 go_ret
 exact ⟨rfl, hb⟩
theorem Pg.takeLies {w : World} {R : Nat → Prop} {al : List (ByteArray × ByteArray)} {a : Option Addr} {d : Nat} (h : Ak.Lies w R al (.slice a al.length d)) (k : Nat) (hk : k ≤ al.length) : Ak.Lies w R (al.take k) (.slice a (al.take k).length d) := by
 obtain ⟨a', d', e, h1, h2, hx⟩ := h
 injection e with e1 e2 e3
 subst e1
 subst e3
 refine ⟨a, d, rfl, by rw [List.length_take]; omega, h2, fun j x hj => hx j x ?_⟩
 rw [List.getElem?_take] at hj
 split at hj
 ·
  exact hj
 ·
  cases hj
theorem Pg.any_false {al : List (ByteArray × ByteArray)} {k : Nat} {nm : ByteArray} (h : (al.take k).any (fun x => decide (x.1 = nm)) = false) : ∀ j y, j < k → al[j]? = some y → y.1 ≠ nm := fun j y hj hy e => by
 have : (al.take k).any (fun x => decide (x.1 = nm)) = true := List.any_eq_true.2 ⟨y, List.mem_of_getElem? (i := j) (by rw [List.getElem?_take, if_pos hj]; exact hy), decide_eq_true e⟩
 rw [h] at this
 cases this
theorem Pg.any_true {al : List (ByteArray × ByteArray)} {k : Nat} {nm : ByteArray} (h : (al.take k).any (fun x => decide (x.1 = nm)) = true) : ∃ j y, j < k ∧ al[j]? = some y ∧ y.1 = nm := by
 obtain ⟨y, hy, e⟩ := List.any_eq_true.1 h
 obtain ⟨j, hj⟩ := List.getElem?_of_mem hy
 rw [List.getElem?_take] at hj
 split at hj
 ·
  next q => exact ⟨j, y, q, hj, of_decide_eq_true e⟩
 ·
  cases hj
set_option maxRecDepth 100000 in
set_option maxHeartbeats 4000000 in
theorem Pg.areAttrs (al : List (ByteArray × ByteArray)) (a : Option Addr) (d : Nat) (R : Nat → Prop) (w : World) (h : Ak.Lies w R al (.slice a al.length d)) (b : Bool) (hb : b = true ↔ al.length ≤ 32 ∧ Bt.named al al.length) :
  Calls Tryz.prog 82 #[.slice a al.length d] w fun e w' => e = .returned (.bool b) ∧ Below w.heap.size w w' := by
 have hL : Ak.Lies w (· < w.heap.size) al (.slice a al.length d) := by
  obtain ⟨a', d', e, h1, h2, hx⟩ := h
  refine ⟨a', d', e, h1, h2, fun j x hj => ?_⟩
  obtain ⟨b', o', e', _, c1, c2⟩ := hx j x hj
  exact ⟨b', o', e', World.block_lt_of_cell? _ _ c1, c1, c2⟩
 obtain ⟨hd1, hd2⟩ : al.length ≤ d ∧ d ≤ maxLen := by
  obtain ⟨a', d', e, h1, h2, hx⟩ := h
  injection e with e1 e2 e3
  omega
 have hbig : al.length ≤ 9223372036854775807 := by unfold maxLen at hd2; omega
 have H := Lib.hid hL
 have HB := Lib.hid hb
 clear h hL hb hd2
 by_cases hm : al.length ≤ 32
 ·
  have l32 : decide ((32 : Int) < (al.length : Int)) = false := decide_eq_false (by omega)
  have HM := Lib.hid hm
  go_enter Tryz.func82, Tryz.ntmps82
  go_wp2
  go_loopw [11] (fun i wr => ∃ k : Nat, k ≤ al.length ∧ i = .int .i64 (k : Int) ∧ Hid (Bt.named al k) ∧ Hid (Below w.heap.size w wr)) (fun i _ => al.length - (intOf i).toNat)
  case atStart => exact ⟨0, Nat.zero_le _, rfl, (fun i x h _ => absurd h (Nat.not_lt_zero _)), Below.refl _ _⟩
  case round =>
   obtain ⟨k, hk, rfl, HN, HW⟩ := hrel
   by_cases hlt : k < al.length
   ·
    have d1 : decide ((k : Int) < (al.length : Int)) = true := decide_eq_true (by omega)
    have HL : Hid (Ak.Lies wr (· < w.heap.size) al (.slice a al.length d)) := H.out.on fun q hq => ⟨hq, HW.out.block q hq⟩
    have HK : Hid (Ak.Lies wr (· < w.heap.size) (al.take k) (.slice a k d)) := by
     have := Pg.takeLies HL.out k hk
     rw [List.length_take, Nat.min_eq_left hk] at this
     exact this
    obtain ⟨a', d', e', _, _, hx⟩ := id HL.out
    injection e' with e1 e2 e3
    subst e1
    obtain ⟨bb, oo, rfl, hbb, c1, c2⟩ := hx k al[k] (List.getElem?_eq_getElem hlt)
    clear hx e2 e3
    have hkd : k < d := by omega
    have hkd2 : k ≤ d := by omega
    have hws := HW.out.size
    have hbw : bb < wr.heap.size := Nat.lt_of_lt_of_le hbb hws
    have n1 : wr.heap.size ≠ bb := by omega
    have n2 : bb ≠ wr.heap.size := by omega
    obtain ⟨y, hy⟩ : ∃ y, al[k] = y := ⟨_, rfl⟩
    rw [hy] at c1 c2
    have HY : Hid (al[k]? = some y) := by unfold Hid; rw [List.getElem?_eq_getElem hlt, hy]
    clear hy
    by_cases YE : y.1.toList = []
    ·
     have y1 : (y.1.toList == []) = true := by rw [YE]; rfl
     have y2 : y.1.toList.isEmpty = true := by rw [YE]; rfl
     have hbf : b = false := by
      cases b
      ·
       rfl
      ·
       exact absurd ((Um.empty _).1 YE) ((HB.out.1 rfl).2 k y hlt HY.out).1
     subst hbf
     have HWW : Hid (∀ o, Below w.heap.size w (wr.alloc o)) := fun o => HW.out.alloc hws _
     go_wp2
     go_ret
     exact ⟨rfl, HWW.out _⟩
    ·
     have y1 : (y.1.toList == []) = false := beq_eq_false_iff_ne.2 YE
     have y2 : y.1.toList.isEmpty = false := by cases hq : y.1.toList with | nil => exact absurd hq YE | cons _ _ => rfl
     have cf : ∀ u q, Below wr.heap.size wr u → u.cell? ⟨q, 0, none⟩ = some (.string y.1) → Calls Tryz.prog 116 #[.slice (some ⟨bb, oo, none⟩) k d, .func (.func 115) #[] #[.pointer (some ⟨q, 0, none⟩)]] u fun e w' => e = .returned (.bool ((al.take k).any (fun x => decide (x.1 = y.1)))) ∧ Below u.heap.size u w' := fun u q hu hq => by
      have := Wa.containsFunc (al.take k) (some ⟨bb, oo, none⟩) d y.1 q u (by rw [List.length_take, Nat.min_eq_left hk]; exact HK.out.on fun j hj => ⟨Nat.lt_of_lt_of_le (Nat.lt_of_lt_of_le hj hws) hu.size, hu.block j (Nat.lt_of_lt_of_le hj hws)⟩) hq
      rw [List.length_take, Nat.min_eq_left hk] at this
      exact this
     have HYE : Hid (y.1 ≠ Ts.e) := fun e => YE ((Um.empty _).2 e)
     clear YE
     cases hany : (al.take k).any (fun x => decide (x.1 = y.1)) with
     | true =>
      have hbf : b = false := by
       cases b
       ·
        rfl
       ·
        obtain ⟨j, z, hj, hz, e⟩ := Pg.any_true hany
        exact absurd e (((HB.out.1 rfl).2 k y hlt HY.out).2 j z hj hz)
      subst hbf
      rw [hany] at cf
      clear hany
      go_wp2_with (go_at_call 116; refine (cf _ _ ((Below.refl _ _).alloc (Nat.le_refl _) _) (by simp)).mono ?_; rintro e w' ⟨rfl, hb'⟩; clear cf)
      go_ret
      exact ⟨rfl, (HW.out.alloc hws _).trans (hb'.mono (by simp; omega))⟩
     | false =>
      have HN2 : Hid (Bt.named al (k + 1)) := fun i x hi hx => by
       by_cases e : i = k
       ·
        subst e
        rw [HY.out] at hx
        injection hx with hx
        subst hx
        exact ⟨HYE.out, fun j y' hj hy' => Pg.any_false hany j y' hj hy'⟩
       ·
        exact HN.out i x (by omega) hx
      rw [hany] at cf
      clear hany
      go_wp2_with (go_at_call 116; refine (cf _ _ ((Below.refl _ _).alloc (Nat.le_refl _) _) (by simp)).mono ?_; rintro e w' ⟨rfl, hb'⟩; clear cf)
      go_roundw
      case rel => exact ⟨k + 1, by omega, by go_num, HN2, (HW.out.alloc hws _).trans (hb'.mono (by simp; omega))⟩
      case measure => simp [intOf]; omega
   ·
    have e : k = al.length := by omega
    subst e
    have d1 : decide ((al.length : Int) < (al.length : Int)) = false := decide_eq_false (by omega)
    have hbt : b = true := HB.out.2 ⟨HM.out, HN.out⟩
    subst hbt
    go_wp2
    go_ret
    exact ⟨rfl, HW.out⟩
 ·
  have l32 : decide ((32 : Int) < (al.length : Int)) = true := decide_eq_true (by omega)
  have hbf : b = false := by
   cases b
   ·
    rfl
   ·
    exact absurd (HB.out.1 rfl).1 hm
  subst hbf
  clear hm
  go_enter Tryz.func82, Tryz.ntmps82
  go_wp2
  go_ret
  exact ⟨rfl, Below.refl _ _⟩
theorem Pg.liesAll {w : World} {R : Nat → Prop} {al : List (ByteArray × ByteArray)} {v : Value} (h : Ak.Lies w R al v) : Ak.Lies w (· < w.heap.size) al v := by
 obtain ⟨a', d', e, h1, h2, hx⟩ := h
 refine ⟨a', d', e, h1, h2, fun j x hj => ?_⟩
 obtain ⟨b', o', e', _, c1, c2⟩ := hx j x hj
 exact ⟨b', o', e', World.block_lt_of_cell? _ _ c1, c1, c2⟩
set_option maxRecDepth 100000 in
set_option maxHeartbeats 4000000 in
theorem Pg.mayBe0 (t : Tk) (a : Option Addr) (d : Nat) (R : Nat → Prop) (w : World) (h : Ak.Lies w R t.attrs (.slice a t.attrs.length d)) (hk : t.kind = 0) (b : Bool) (hb : b = true ↔ t.name = Ts.e ∧ t.attrs = [] ∧ t.self = false) :
  Calls Tryz.prog 37 #[.agg #[.int .i64 t.kind, .string t.name, .string t.text, .slice a t.attrs.length d, .bool t.self]] w fun e w' => e = .returned (.bool b) ∧ Below w.heap.size w w' := by
 have hm : t.attrs.length ≤ 9223372036854775807 := by
  obtain ⟨a', d', e, l1, m1, x1⟩ := h
  injection e with e1 e2 e3
  unfold maxLen at m1
  omega
 clear h
 have k1 : (t.kind == 1) = false := by rw [hk]; rfl
 have k2 : (t.kind == 2) = false := by rw [hk]; rfl
 have k0 : (t.kind == 0) = true := by rw [hk]; rfl
 clear hk
 by_cases NAMEE : t.name.toList = []
 ·
  by_cases hl : t.attrs = []
  ·
   have hbb : b = !t.self := by
    rw [Bool.eq_iff_iff, hb]
    simp [(Um.empty t.name).1 NAMEE, hl]
   subst hbb
   have l0 : ((t.attrs.length : Int) == 0) = true := by rw [hl]; rfl
   have l1 : t.attrs.length = 0 := by rw [hl]; rfl
   have name1 : (t.name.toList == []) = true := by rw [NAMEE]; rfl
   have name2 : t.name.toList.isEmpty = true := by rw [NAMEE]; rfl
   have name3 : t.name.toList = [] := NAMEE
   have name4 : (t.name.toList != []) = false := by rw [bne, name1]; rfl
   clear hb hl NAMEE
   cases hs : t.self
   all_goals
    go_enter Tryz.func37, Tryz.ntmps37
    go_wp2
    go_ret
    exact ⟨rfl, (Below.refl _ _).alloc (Nat.le_refl _) _⟩
  ·
   have l1 : ¬ t.attrs.length = 0 := fun e => hl (List.eq_nil_of_length_eq_zero e)
   have l0 : ((t.attrs.length : Int) == 0) = false := beq_eq_false_iff_ne.2 (by omega)
   have hbb : b = false := by
    cases b
    ·
     rfl
    ·
     exact absurd (hb.1 rfl).2.1 hl
   subst hbb
   have name1 : (t.name.toList == []) = true := by rw [NAMEE]; rfl
   have name2 : t.name.toList.isEmpty = true := by rw [NAMEE]; rfl
   have name3 : t.name.toList = [] := NAMEE
   have name4 : (t.name.toList != []) = false := by rw [bne, name1]; rfl
   clear hb hl NAMEE
   go_enter Tryz.func37, Tryz.ntmps37
   go_wp2
   go_ret
   exact ⟨rfl, (Below.refl _ _).alloc (Nat.le_refl _) _⟩
 ·
  have hbb : b = false := by
   cases b
   ·
    rfl
   ·
    exact absurd ((Um.empty _).2 (hb.1 rfl).1) NAMEE
  subst hbb
  have name1 : (t.name.toList == []) = false := beq_eq_false_iff_ne.2 NAMEE
  have name2 : t.name.toList.isEmpty = false := by cases hq : t.name.toList with | nil => exact absurd hq NAMEE | cons _ _ => rfl
  have name3 : ¬ t.name.toList = [] := NAMEE
  have name4 : (t.name.toList != []) = true := by rw [bne, name1]; rfl
  clear hb NAMEE
  go_enter Tryz.func37, Tryz.ntmps37
  go_wp2
  go_ret
  exact ⟨rfl, (Below.refl _ _).alloc (Nat.le_refl _) _⟩
set_option maxRecDepth 100000 in
set_option maxHeartbeats 4000000 in
theorem Pg.mayBe3 (t : Tk) (a : Option Addr) (d : Nat) (R : Nat → Prop) (w : World) (h : Ak.Lies w R t.attrs (.slice a t.attrs.length d)) (hk : t.kind = 3) (b : Bool) (hb : b = true ↔ t.name = Ts.e ∧ t.attrs = [] ∧ t.self = false) :
  Calls Tryz.prog 37 #[.agg #[.int .i64 t.kind, .string t.name, .string t.text, .slice a t.attrs.length d, .bool t.self]] w fun e w' => e = .returned (.bool b) ∧ Below w.heap.size w w' := by
 have hm : t.attrs.length ≤ 9223372036854775807 := by
  obtain ⟨a', d', e, l1, m1, x1⟩ := h
  injection e with e1 e2 e3
  unfold maxLen at m1
  omega
 clear h
 have k1 : (t.kind == 1) = false := by rw [hk]; rfl
 have k2 : (t.kind == 2) = false := by rw [hk]; rfl
 have k0 : (t.kind == 0) = false := by rw [hk]; rfl
 have k3 : (t.kind == 3) = true := by rw [hk]; rfl
 clear hk
 by_cases NAMEE : t.name.toList = []
 ·
  by_cases hl : t.attrs = []
  ·
   have hbb : b = !t.self := by
    rw [Bool.eq_iff_iff, hb]
    simp [(Um.empty t.name).1 NAMEE, hl]
   subst hbb
   have l0 : ((t.attrs.length : Int) == 0) = true := by rw [hl]; rfl
   have l1 : t.attrs.length = 0 := by rw [hl]; rfl
   have name1 : (t.name.toList == []) = true := by rw [NAMEE]; rfl
   have name2 : t.name.toList.isEmpty = true := by rw [NAMEE]; rfl
   have name3 : t.name.toList = [] := NAMEE
   have name4 : (t.name.toList != []) = false := by rw [bne, name1]; rfl
   clear hb hl NAMEE
   cases hs : t.self
   all_goals
    go_enter Tryz.func37, Tryz.ntmps37
    go_wp2
    go_ret
    exact ⟨rfl, (Below.refl _ _).alloc (Nat.le_refl _) _⟩
  ·
   have l1 : ¬ t.attrs.length = 0 := fun e => hl (List.eq_nil_of_length_eq_zero e)
   have l0 : ((t.attrs.length : Int) == 0) = false := beq_eq_false_iff_ne.2 (by omega)
   have hbb : b = false := by
    cases b
    ·
     rfl
    ·
     exact absurd (hb.1 rfl).2.1 hl
   subst hbb
   have name1 : (t.name.toList == []) = true := by rw [NAMEE]; rfl
   have name2 : t.name.toList.isEmpty = true := by rw [NAMEE]; rfl
   have name3 : t.name.toList = [] := NAMEE
   have name4 : (t.name.toList != []) = false := by rw [bne, name1]; rfl
   clear hb hl NAMEE
   go_enter Tryz.func37, Tryz.ntmps37
   go_wp2
   go_ret
   exact ⟨rfl, (Below.refl _ _).alloc (Nat.le_refl _) _⟩
 ·
  have hbb : b = false := by
   cases b
   ·
    rfl
   ·
    exact absurd ((Um.empty _).2 (hb.1 rfl).1) NAMEE
  subst hbb
  have name1 : (t.name.toList == []) = false := beq_eq_false_iff_ne.2 NAMEE
  have name2 : t.name.toList.isEmpty = false := by cases hq : t.name.toList with | nil => exact absurd hq NAMEE | cons _ _ => rfl
  have name3 : ¬ t.name.toList = [] := NAMEE
  have name4 : (t.name.toList != []) = true := by rw [bne, name1]; rfl
  clear hb NAMEE
  go_enter Tryz.func37, Tryz.ntmps37
  go_wp2
  go_ret
  exact ⟨rfl, (Below.refl _ _).alloc (Nat.le_refl _) _⟩
set_option maxRecDepth 100000 in
set_option maxHeartbeats 4000000 in
theorem Pg.mayBe2 (t : Tk) (a : Option Addr) (d : Nat) (R : Nat → Prop) (w : World) (h : Ak.Lies w R t.attrs (.slice a t.attrs.length d)) (hk : t.kind = 2) (b : Bool) (hb : b = true ↔ t.name ≠ Ts.e ∧ t.text = Ts.e ∧ t.attrs = [] ∧ t.self = false) :
  Calls Tryz.prog 37 #[.agg #[.int .i64 t.kind, .string t.name, .string t.text, .slice a t.attrs.length d, .bool t.self]] w fun e w' => e = .returned (.bool b) ∧ Below w.heap.size w w' := by
 have hm : t.attrs.length ≤ 9223372036854775807 := by
  obtain ⟨a', d', e, l1, m1, x1⟩ := h
  injection e with e1 e2 e3
  unfold maxLen at m1
  omega
 clear h
 have k1 : (t.kind == 1) = false := by rw [hk]; rfl
 have k2 : (t.kind == 2) = true := by rw [hk]; rfl
 clear hk
 by_cases NAMEE : t.name.toList = []
 ·
  have hbb : b = false := by
   cases b
   ·
    rfl
   ·
    exact absurd ((Um.empty _).1 NAMEE) (hb.1 rfl).1
  subst hbb
  have name1 : (t.name.toList == []) = true := by rw [NAMEE]; rfl
  have name2 : t.name.toList.isEmpty = true := by rw [NAMEE]; rfl
  have name3 : t.name.toList = [] := NAMEE
  have name4 : (t.name.toList != []) = false := by rw [bne, name1]; rfl
  clear hb NAMEE
  go_enter Tryz.func37, Tryz.ntmps37
  go_wp2
  go_ret
  exact ⟨rfl, (Below.refl _ _).alloc (Nat.le_refl _) _⟩
 have name1 : (t.name.toList == []) = false := beq_eq_false_iff_ne.2 NAMEE
 have name2 : t.name.toList.isEmpty = false := by cases hq : t.name.toList with | nil => exact absurd hq NAMEE | cons _ _ => rfl
 have name3 : ¬ t.name.toList = [] := NAMEE
 have name4 : (t.name.toList != []) = true := by rw [bne, name1]; rfl
 by_cases TEXTE : t.text.toList = []
 ·
  by_cases hl : t.attrs = []
  ·
   have hbb : b = !t.self := by
    rw [Bool.eq_iff_iff, hb]
    have hne : ¬ t.name = Ts.e := fun e => NAMEE ((Um.empty _).2 e)
    simp [(Um.empty t.text).1 TEXTE, hl, hne]
   subst hbb
   have l0 : ((t.attrs.length : Int) == 0) = true := by rw [hl]; rfl
   have l1 : t.attrs.length = 0 := by rw [hl]; rfl
   have text1 : (t.text.toList == []) = true := by rw [TEXTE]; rfl
   have text2 : t.text.toList.isEmpty = true := by rw [TEXTE]; rfl
   have text3 : t.text.toList = [] := TEXTE
   have text4 : (t.text.toList != []) = false := by rw [bne, text1]; rfl
   clear hb hl NAMEE TEXTE
   cases hs : t.self
   all_goals
    go_enter Tryz.func37, Tryz.ntmps37
    go_wp2
    go_ret
    exact ⟨rfl, (Below.refl _ _).alloc (Nat.le_refl _) _⟩
  ·
   have l1 : ¬ t.attrs.length = 0 := fun e => hl (List.eq_nil_of_length_eq_zero e)
   have l0 : ((t.attrs.length : Int) == 0) = false := beq_eq_false_iff_ne.2 (by omega)
   have hbb : b = false := by
    cases b
    ·
     rfl
    ·
     exact absurd (hb.1 rfl).2.2.1 hl
   subst hbb
   have text1 : (t.text.toList == []) = true := by rw [TEXTE]; rfl
   have text2 : t.text.toList.isEmpty = true := by rw [TEXTE]; rfl
   have text3 : t.text.toList = [] := TEXTE
   have text4 : (t.text.toList != []) = false := by rw [bne, text1]; rfl
   clear hb hl NAMEE TEXTE
   go_enter Tryz.func37, Tryz.ntmps37
   go_wp2
   go_ret
   exact ⟨rfl, (Below.refl _ _).alloc (Nat.le_refl _) _⟩
 ·
  have hbb : b = false := by
   cases b
   ·
    rfl
   ·
    exact absurd ((Um.empty _).2 (hb.1 rfl).2.1) TEXTE
  subst hbb
  have text1 : (t.text.toList == []) = false := beq_eq_false_iff_ne.2 TEXTE
  have text2 : t.text.toList.isEmpty = false := by cases hq : t.text.toList with | nil => exact absurd hq TEXTE | cons _ _ => rfl
  have text3 : ¬ t.text.toList = [] := TEXTE
  have text4 : (t.text.toList != []) = true := by rw [bne, text1]; rfl
  clear hb NAMEE TEXTE
  go_enter Tryz.func37, Tryz.ntmps37
  go_wp2
  go_ret
  exact ⟨rfl, (Below.refl _ _).alloc (Nat.le_refl _) _⟩
set_option maxRecDepth 100000 in
set_option maxHeartbeats 4000000 in
theorem Pg.mayBe1 (t : Tk) (a : Option Addr) (d : Nat) (R : Nat → Prop) (w : World) (h : Ak.Lies w R t.attrs (.slice a t.attrs.length d)) (hk : t.kind = 1) (b : Bool) (hb : b = true ↔ t.name ≠ Ts.e ∧ t.text = Ts.e ∧ t.attrs.length ≤ 32 ∧ Bt.named t.attrs t.attrs.length) :
  Calls Tryz.prog 37 #[.agg #[.int .i64 t.kind, .string t.name, .string t.text, .slice a t.attrs.length d, .bool t.self]] w fun e w' => e = .returned (.bool b) ∧ Below w.heap.size w w' := by
 have hm : t.attrs.length ≤ 9223372036854775807 := by
  obtain ⟨a', d', e, l1, m1, x1⟩ := h
  injection e with e1 e2 e3
  unfold maxLen at m1
  omega
 have k1 : (t.kind == 1) = true := by rw [hk]; rfl
 clear hk
 by_cases NAMEE : t.name.toList = []
 ·
  have hbb : b = false := by
   cases b
   ·
    rfl
   ·
    exact absurd ((Um.empty _).1 NAMEE) (hb.1 rfl).1
  subst hbb
  have name1 : (t.name.toList == []) = true := by rw [NAMEE]; rfl
  have name2 : t.name.toList.isEmpty = true := by rw [NAMEE]; rfl
  have name3 : t.name.toList = [] := NAMEE
  have name4 : (t.name.toList != []) = false := by rw [bne, name1]; rfl
  clear hb NAMEE h
  go_enter Tryz.func37, Tryz.ntmps37
  go_wp2
  go_ret
  exact ⟨rfl, (Below.refl _ _).alloc (Nat.le_refl _) _⟩
 have name1 : (t.name.toList == []) = false := beq_eq_false_iff_ne.2 NAMEE
 have name2 : t.name.toList.isEmpty = false := by cases hq : t.name.toList with | nil => exact absurd hq NAMEE | cons _ _ => rfl
 have name3 : ¬ t.name.toList = [] := NAMEE
 have name4 : (t.name.toList != []) = true := by rw [bne, name1]; rfl
 by_cases TEXTE : t.text.toList = []
 ·
  have hb2 : b = true ↔ t.attrs.length ≤ 32 ∧ Bt.named t.attrs t.attrs.length := by
   rw [hb]
   exact ⟨fun q => q.2.2, fun q => ⟨fun e => NAMEE ((Um.empty _).2 e), (Um.empty _).1 TEXTE, q⟩⟩
  have text1 : (t.text.toList == []) = true := by rw [TEXTE]; rfl
  have text2 : t.text.toList.isEmpty = true := by rw [TEXTE]; rfl
  have text3 : t.text.toList = [] := TEXTE
  have text4 : (t.text.toList != []) = false := by rw [bne, text1]; rfl
  have HH := Lib.hid h
  have ar := fun u (hu : Below w.heap.size w u) => Pg.areAttrs t.attrs a d (fun _ => True) u ((Pg.liesAll HH.out).on fun k hk => ⟨trivial, hu.block k hk⟩) b hb2
  clear hb hb2 NAMEE TEXTE h
  cases b
  all_goals
   go_enter Tryz.func37, Tryz.ntmps37
   go_wp2_with (go_at_call 82; refine (ar _ ((Below.refl _ _).alloc (Nat.le_refl _) _)).mono ?_; rintro e w2 ⟨rfl, hb2⟩; clear ar)
   go_ret
   exact ⟨rfl, ((Below.refl _ _).alloc (Nat.le_refl _) _).trans (hb2.mono (by simp))⟩
 ·
  have hbb : b = false := by
   cases b
   ·
    rfl
   ·
    exact absurd ((Um.empty _).2 (hb.1 rfl).2.1) TEXTE
  subst hbb
  have text1 : (t.text.toList == []) = false := beq_eq_false_iff_ne.2 TEXTE
  have text2 : t.text.toList.isEmpty = false := by cases hq : t.text.toList with | nil => exact absurd hq TEXTE | cons _ _ => rfl
  have text3 : ¬ t.text.toList = [] := TEXTE
  have text4 : (t.text.toList != []) = true := by rw [bne, text1]; rfl
  clear hb NAMEE TEXTE h
  go_enter Tryz.func37, Tryz.ntmps37
  go_wp2
  go_ret
  exact ⟨rfl, (Below.refl _ _).alloc (Nat.le_refl _) _⟩
set_option maxRecDepth 100000 in
set_option maxHeartbeats 4000000 in
theorem Pg.mayBeOther (t : Tk) (a : Option Addr) (d : Nat) (R : Nat → Prop) (w : World) (_h : Ak.Lies w R t.attrs (.slice a t.attrs.length d)) (h0 : ¬ t.kind = 0) (h1 : ¬ t.kind = 1) (h2 : ¬ t.kind = 2) (h3 : ¬ t.kind = 3) :
  Calls Tryz.prog 37 #[.agg #[.int .i64 t.kind, .string t.name, .string t.text, .slice a t.attrs.length d, .bool t.self]] w fun e w' => e = .returned (.bool false) ∧ Below w.heap.size w w' := by
 have k0 : (t.kind == 0) = false := beq_eq_false_iff_ne.2 h0
 have k1 : (t.kind == 1) = false := beq_eq_false_iff_ne.2 h1
 have k2 : (t.kind == 2) = false := beq_eq_false_iff_ne.2 h2
 have k3 : (t.kind == 3) = false := beq_eq_false_iff_ne.2 h3
 clear h0 h1 h2 h3
 go_enter Tryz.func37, Tryz.ntmps37
 go_wp2
 go_ret
 exact ⟨rfl, (Below.refl _ _).alloc (Nat.le_refl _) _⟩
theorem Pg.mayBe (t : Tk) (a : Option Addr) (d : Nat) (R : Nat → Prop) (w : World) (h : Ak.Lies w R t.attrs (.slice a t.attrs.length d)) :
  Calls Tryz.prog 37 #[.agg #[.int .i64 t.kind, .string t.name, .string t.text, .slice a t.attrs.length d, .bool t.self]] w fun e w' => ∃ b, e = .returned (.bool b) ∧ (b = true ↔ t.May) ∧ Below w.heap.size w w' := by
 have text : ∀ p : Prop, (t.kind = 0 ∨ t.kind = 3) → (p ↔ t.name = Ts.e ∧ t.attrs = [] ∧ t.self = false) → (p ↔ t.May) := fun p hk hp => by
  rw [hp]
  unfold Tk.May
  constructor
  ·
   intro q; exact .inl ⟨hk, q⟩
  ·
   rintro (q | q)
   ·
    exact q.2
   ·
    exact absurd q.1 (by omega)
 by_cases k0 : t.kind = 0
 ·
  obtain ⟨b, hbb⟩ := Um.bool (t.name = Ts.e ∧ t.attrs = [] ∧ t.self = false)
  refine (Pg.mayBe0 t a d R w h k0 b hbb).mono ?_
  rintro e w' ⟨rfl, hb⟩
  exact ⟨_, rfl, text _ (.inl k0) hbb, hb⟩
 by_cases k3 : t.kind = 3
 ·
  obtain ⟨b, hbb⟩ := Um.bool (t.name = Ts.e ∧ t.attrs = [] ∧ t.self = false)
  refine (Pg.mayBe3 t a d R w h k3 b hbb).mono ?_
  rintro e w' ⟨rfl, hb⟩
  exact ⟨_, rfl, text _ (.inr k3) hbb, hb⟩
 by_cases k1 : t.kind = 1
 ·
  obtain ⟨b, hbb⟩ := Um.bool (t.name ≠ Ts.e ∧ t.text = Ts.e ∧ t.attrs.length ≤ 32 ∧ Bt.named t.attrs t.attrs.length)
  refine (Pg.mayBe1 t a d R w h k1 b hbb).mono ?_
  rintro e w' ⟨rfl, hb⟩
  refine ⟨_, rfl, ?_, hb⟩
  rw [hbb]
  unfold Tk.May
  constructor
  ·
   intro q; exact .inr ⟨.inl k1, q⟩
  ·
   rintro (q | q)
   ·
    exact absurd q.1 (by omega)
   ·
    exact q.2
 by_cases k2 : t.kind = 2
 ·
  obtain ⟨b, hbb⟩ := Um.bool (t.name ≠ Ts.e ∧ t.text = Ts.e ∧ t.attrs = [] ∧ t.self = false)
  refine (Pg.mayBe2 t a d R w h k2 b hbb).mono ?_
  rintro e w' ⟨rfl, hb⟩
  refine ⟨_, rfl, ?_, hb⟩
  rw [hbb]
  unfold Tk.May
  constructor
  ·
   intro q
   refine .inr ⟨.inr ⟨k2, q.2.2.1, q.2.2.2⟩, q.1, q.2.1, ?_, ?_⟩
   ·
    rw [q.2.2.1]; exact Nat.zero_le _
   ·
    rw [q.2.2.1]; exact fun i x hi => absurd hi (Nat.not_lt_zero _)
  ·
   rintro (q | q)
   ·
    exact absurd q.1 (by omega)
   ·
    rcases q.1 with r | r
    ·
     exact absurd r k1
    ·
     exact ⟨q.2.1, q.2.2.1, r.2.1, r.2.2⟩
 ·
  refine (Pg.mayBeOther t a d R w h k0 k1 k2 k3).mono ?_
  rintro e w' ⟨rfl, hb⟩
  refine ⟨_, rfl, ⟨(fun q => by cases q), fun q => ?_⟩, hb⟩
  rcases q with q | q
  ·
   exact absurd q.1 (by omega)
  ·
   exact absurd q.1 (by omega)
end Go.Proofs.YtblpkjlodncpeaaGreatDoor

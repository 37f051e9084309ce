/-
  THE WALKS of json.write's two closures.
-/
import Derived.Test.YtboalkfagfgnpaaGreatDoorCJWttoJWs
import Derived.Test.YtboalkfagfgnpaaGreatDoorCVFormtoReText
namespace Go.Proofs.YtboalkfagfgnpaaGreatDoor
open Go.RowKit
theorem Jw.isF_drew {T e : TypeId} {B b : Nat} {bs : List Value} {W : World} (h : Lib.IsBuilderF T e B b bs W) : Lib.IsBuilderF T e B b bs W.drew := Wk.isF_below h (Below.refl _ _).drew
set_option maxRecDepth 100000 in
set_option maxHeartbeats 4000000 in
theorem Jw.part1 (w0 : World) (t : Vt) (B b a : Nat) (hW : Jw.W w0 t B b) (v0 v1 v2 v3 v5 : Value) (bi oi n c i : Nat) (hin : i < n) (_hn : n ≤ 64) (acc : List UInt8) (u : World) (hX : Jw.Bx a b v0 v1 v2 v3 (.slice (some ⟨bi, oi, none⟩) n c) v5 u)
    (u0 u1 u2 u3 u4 u5 : Value) (c0 : u.cell? ⟨bi, oi + i * 6, none⟩ = some u0) (c1 : u.cell? ⟨bi, oi + i * 6 + 1, none⟩ = some u1) (c2 : u.cell? ⟨bi, oi + i * 6 + 2, none⟩ = some u2) (c3 : u.cell? ⟨bi, oi + i * 6 + 3, none⟩ = some u3) (c4 : u.cell? ⟨bi, oi + i * 6 + 4, none⟩ = some u4) (c5 : u.cell? ⟨bi, oi + i * 6 + 5, none⟩ = some u5)
    (hl : t.Lies u (· < B) (.agg #[u0, u1, u2, u3, u4, u5])) (hI : Lib.IsBuilderF 46 5 B b (Lib.byteCells acc) u) (hlen : acc.length ≤ 1099511627776) (h0 : Below w0.heap.size w0 u) :
    Calls Tryz.prog 41 #[.int .i64 (i : Int), .pointer (some ⟨a, 0, none⟩), .pointer (some ⟨a + 1, 0, none⟩)] u fun e w' => e = .returned (.tuple #[]) ∧ Lib.IsBuilderF 46 5 B b (Lib.byteCells (Js.pj t acc)) w' ∧ Jw.Kept B b u w' := by
  have hw := hW acc _ u.drew (hl.below (Below.refl _ _).drew) (Jw.isF_drew hI) hlen h0.drew
  obtain ⟨k, x, y, s, ai', n', c', ak, m, d, rfl, rfl, rfl, rfl, rfl, rfl⟩ := hl.cells
  have y0 : u.cell? ⟨a, 0, none⟩ = some (.pointer (some ⟨b, 0, none⟩)) := hX.out.cell 0 rfl
  obtain ⟨-, -, -, -, z4, -⟩ := hX.val.cells
  have i0 : (0 : Int) ≤ (i : Int) := by omega
  have i1 : (i : Int) < (n : Int) := by omega
  clear hX hl hI hW h0
  go_enter Tryz.func41, Tryz.ntmps41
  go_wp2_with fail
  go_region_with (go_at_call 16; refine hw.mono ?_; rintro e w4 ⟨rfl, i4, k4⟩; have HI4 := Lib.hid i4; have HK4 : Hid (Jw.Kept B b u w4) := (Jw.Kept.refl B b u).drew.trans k4; clear i4 k4)
  all_goals first | go_end0 | refine bodyPost_ret (results_none rfl _ _ _) rfl ?_
  all_goals exact ⟨rfl, HI4.out, HK4.out⟩
set_option maxRecDepth 100000 in
set_option maxHeartbeats 4000000 in
theorem Jw.part2 (w0 : World) (t : Vt) (B b a : Nat) (hW : Jw.W w0 t B b) (v0 v1 v2 v3 : Value) (bi oi n c bk ok d i : Nat) (hin : i < n) (_hn : n ≤ 64) (acc : List UInt8) (key : ByteArray) (u : World) (hX : Jw.Bx a b v0 v1 v2 v3 (.slice (some ⟨bi, oi, none⟩) n c) (.slice (some ⟨bk, ok, none⟩) n d) u)
    (hk : u.cell? ⟨bk, ok + i, none⟩ = some (.string key)) (hbk : bk < B)
    (u0 u1 u2 u3 u4 u5 : Value) (hbi : bi < B) (c0 : u.cell? ⟨bi, oi + i * 6, none⟩ = some u0) (c1 : u.cell? ⟨bi, oi + i * 6 + 1, none⟩ = some u1) (c2 : u.cell? ⟨bi, oi + i * 6 + 2, none⟩ = some u2) (c3 : u.cell? ⟨bi, oi + i * 6 + 3, none⟩ = some u3) (c4 : u.cell? ⟨bi, oi + i * 6 + 4, none⟩ = some u4) (c5 : u.cell? ⟨bi, oi + i * 6 + 5, none⟩ = some u5)
    (hl : t.Lies u (· < B) (.agg #[u0, u1, u2, u3, u4, u5])) (hI : Lib.IsBuilderF 46 5 B b (Lib.byteCells acc) u) (hB : B ≤ u.heap.size) (h0B : w0.heap.size ≤ B) (S : ByteArray) (hS : S.data.toList = Js.quoted key.data.toList)
    (hq : ∀ v, Below w0.heap.size w0 v → Calls Tryz.prog 39 #[.string key] v fun e w' => e = .returned (.string S) ∧ Below v.heap.size v w') (hlen : acc.length + S.size + 1 ≤ 1099511627776) (h0 : Below w0.heap.size w0 u) :
    Calls Tryz.prog 42 #[.int .i64 (i : Int), .pointer (some ⟨a, 0, none⟩), .pointer (some ⟨a + 1, 0, none⟩)] u fun e w' => e = .returned (.tuple #[]) ∧ Lib.IsBuilderF 46 5 B b (Lib.byteCells (Js.pj t (acc ++ (Js.quoted key.data.toList ++ [58])))) w' ∧ Jw.Kept B b u w' := by
  have HE : Hid (acc ++ (Js.quoted key.data.toList ++ [58]) = (acc ++ S.data.toList) ++ [58]) := by unfold Hid; rw [hS]; simp
  have hq1 := hq u.drew h0.drew
  obtain ⟨k, x, y, s, ai', n', c', ak, m, d', rfl, rfl, rfl, rfl, rfl, rfl⟩ := hl.cells
  have y0 : u.cell? ⟨a, 0, none⟩ = some (.pointer (some ⟨b, 0, none⟩)) := hX.out.cell 0 rfl
  obtain ⟨-, -, -, -, z4, z5⟩ := hX.val.cells
  have HX := Lib.hid hX
  have HI := Lib.hid hI
  have HL := Lib.hid hl
  have i0 : (0 : Int) ≤ (i : Int) := by omega
  have i1 : (i : Int) < (n : Int) := by omega
  have hSl : S.data.toList.length = S.size := Wk.len_data S
  have hle4 : (acc ++ S.data.toList).length = acc.length + S.size := by rw [List.length_append, hSl]
  have hle5 : ((acc ++ S.data.toList) ++ [58]).length = acc.length + S.size + 1 := by rw [List.length_append, hle4]; rfl
  have KB : Hid (∀ (u' : World) (o : Nat) (v : Value), Below B u u' → u.cell? ⟨bi, o, none⟩ = some v → u'.cell? ⟨bi, o, none⟩ = some v) := fun u' o v h q => Vt.cell_on (h.block _ hbi) q
  have C := Lib.hid (And.intro c0 (And.intro c1 (And.intro c2 (And.intro c3 (And.intro c4 c5)))))
  rw [HE.out]
  clear hX hl hI hS hSl HE c0 c1 c2 c3 c4 c5 hq
  generalize hA4 : acc ++ S.data.toList = A4 at *
  have HA4 := Lib.hid hA4
  clear hA4
  generalize hA5 : A4 ++ [58] = A5 at *
  have HA5 := Lib.hid hA5
  clear hA5
  go_enter Tryz.func42, Tryz.ntmps42
  go_wp2_with fail
  go_region_held (fun u => u.cell? ⟨a, 0, none⟩ = some (.pointer (some ⟨b, 0, none⟩)) ∧ u.cell? ⟨a + 1, 5, none⟩ = some (.slice (some ⟨bk, ok, none⟩) n d) ∧ u.cell? ⟨bk, ok + i, none⟩ = some (.string key)) (go_keep) (first | (go_at_call 39; refine hq1.mono ?_; rintro e w3 ⟨rfl, b3⟩; have b3 := (Below.refl u.heap.size u).drew.trans b3; have HI3 := Lib.hid (Wk.isF_below HI.out b3); have HK3 := Lib.hid ((Jw.Kept.refl B b u).more hB b3); have HX3 := Lib.hid (HX.out.on b3); have y0 : w3.cell? ⟨a, 0, none⟩ = some (.pointer (some ⟨b, 0, none⟩)) := HX3.out.out.cell 0 rfl; obtain ⟨-, -, -, -, z4, z5⟩ := HX3.out.val.cells; have hk : w3.cell? ⟨bk, ok + i, none⟩ = some (.string key) := Vt.cell_on (b3.block _ (by omega)) hk; clear b3 hq1) | (go_at_call 35; refine (Jw.put S _ HI3.out (by omega)).mono ?_; rintro e w4 ⟨rfl, i4, k4⟩; have HI4 : Hid (Lib.IsBuilderF 46 5 B b (Lib.byteCells A4) w4) := (by unfold Hid; rw [← HA4.out]; exact i4); have HK4 := Lib.hid (HK3.out.trans k4); have HX4 := Lib.hid (HX3.out.kept k4); have y0 : w4.cell? ⟨a, 0, none⟩ = some (.pointer (some ⟨b, 0, none⟩)) := HX4.out.out.cell 0 rfl; obtain ⟨-, -, -, -, z4, z5⟩ := HX4.out.val.cells; have hk : w4.cell? ⟨bk, ok + i, none⟩ = some (.string key) := Vt.cell_on (k4.back.block _ hbk) hk; clear i4 k4))
  have pc : Calls Tryz.prog 43 #[.pointer (some ⟨b, 0, none⟩), .int .u8 58] w4 fun e w' => e = .returned .nilIface ∧ Lib.IsBuilderF 46 5 B b (Lib.byteCells A5) w' ∧ Jw.Kept B b w4 w' := by rw [← HA5.out]; exact Jw.putc 58 w4 HI4.out (by omega)
  go_wp2_with fail
  refine pc.mono ?_
  rintro e w5 ⟨rfl, i5, k5⟩
  have HK5 := Lib.hid (HK4.out.trans k5)
  have HX5 := Lib.hid (HX4.out.kept k5)
  have y0 : w5.cell? ⟨a, 0, none⟩ = some (.pointer (some ⟨b, 0, none⟩)) := HX5.out.out.cell 0 rfl
  obtain ⟨-, -, -, -, z4, z5⟩ := HX5.out.val.cells
  have hw := hW A5 _ w5.drew ((HL.out.below HK5.out.back).below (Below.refl _ _).drew) (Jw.isF_drew i5) (by omega) (h0.trans (HK5.out.back.mono h0B)).drew
  have q0 := KB.out _ _ _ HK5.out.back C.out.1
  have q1 := KB.out _ _ _ HK5.out.back C.out.2.1
  have q2 := KB.out _ _ _ HK5.out.back C.out.2.2.1
  have q3 := KB.out _ _ _ HK5.out.back C.out.2.2.2.1
  have q4 := KB.out _ _ _ HK5.out.back C.out.2.2.2.2.1
  have q5 := KB.out _ _ _ HK5.out.back C.out.2.2.2.2.2
  clear i5 k5 pc hW HI HI3 HI4 HX HX3 HX4 HK3 HK4 HX5 HL
  go_wp2_with fail
  go_region_with (go_at_call 16; refine hw.mono ?_; rintro e w6 ⟨rfl, i6, k6⟩; have HI6 := Lib.hid i6; have HK6 := Lib.hid (HK5.out.drew.trans k6); clear i6)
  all_goals first | go_end0 | refine bodyPost_ret (results_none rfl _ _ _) rfl ?_
  all_goals exact ⟨rfl, HI6.out, HK6.out⟩
end Go.Proofs.YtboalkfagfgnpaaGreatDoor
/-
  THE WALKS of json.write, whole, and json.Put.
-/
namespace Go.Proofs.YtboalkfagfgnpaaGreatDoor
open Go.RowKit
theorem Jw.run_list (it : Nat → Vt) (ks : Nat → ByteArray) : (fun i a => Js.pj (it i) (a ++ Js.pre 5 ks i)) = (fun (i : Nat) (a : List UInt8) => (fun i a => Js.pj (it i) a) i (a ++ Js.comma i)) := by
  funext i a
  simp [Js.pre]
theorem Jw.run_rec (it : Nat → Vt) (ks : Nat → ByteArray) : (fun i a => Js.pj (it i) (a ++ Js.pre 6 ks i)) = (fun (i : Nat) (a : List UInt8) => (fun i a => Js.pj (it i) (a ++ (Js.quoted (ks i).data.toList ++ [58]))) i (a ++ Js.comma i)) := by
  funext i a
  simp [Js.pre]
theorem Jw.pj_many {k x : Int} {b : Nat} {s : ByteArray} {n : Nat} {it : Nat → Vt} {m : Nat} {ks : Nat → ByteArray} {acc : List UInt8} (hl : ¬ 65536 < acc.length) (hk : ¬ (0 ≤ k ∧ k < 5)) : Js.pj (.mk k x b s n it m ks) acc = Js.runp (fun i a => Js.pj (it i) (a ++ Js.pre k ks i)) n (acc ++ [Js.open k]) ++ [Js.shut k] := by
  rw [Js.pj, if_neg hl, if_neg hk]
/-- what stays while a list or record is written -/
structure Jw.Pr (w0 : World) (t : Vt) (v : Value) (B b a : Nat) (v0 v1 v2 v3 v4 v5 : Value) (u : World) : Prop where
  box : Jw.Bx a b v0 v1 v2 v3 v4 v5 u
  lies : t.Lies u (· < B) v
  old : Below w0.heap.size w0 u
  size : B ≤ u.heap.size
theorem Jw.Pr.kept {w0 : World} {t : Vt} {v : Value} {B b a : Nat} {v0 v1 v2 v3 v4 v5 : Value} {u u' : World} (h0 : w0.heap.size ≤ B) (h : Jw.Pr w0 t v B b a v0 v1 v2 v3 v4 v5 u) (k : Jw.Kept B b u u') : Jw.Pr w0 t v B b a v0 v1 v2 v3 v4 v5 u' :=
  ⟨h.box.kept k, h.lies.below k.back, h.old.trans (k.back.mono h0), k.low h.size⟩
set_option maxRecDepth 100000 in
set_option maxHeartbeats 4000000 in
theorem Jw.list (w0 : World) (d : Nat) (hd : d ≤ 64) (x : Int) (y : Nat) (s : ByteArray) (n : Nat) (it : Nat → Vt) (m : Nat) (ks : Nat → ByteArray) (hok : Js.Ok (d + 1) (.mk 5 x y s n it m ks)) (B b : Nat) (h0B : w0.heap.size ≤ B) (ih : ∀ i, i < n → Jw.W w0 (it i) B b) : Jw.W w0 (.mk 5 x y s n it m ks) B b := by
  intro acc v w hl hi hlen h0
  by_cases hlong : 65536 < acc.length
  · rw [Js.pj_over hlong]
    exact Jw.long _ B b acc v w hl hi hlong
  · obtain ⟨hf, -, hit⟩ := hok
    obtain ⟨hn64, -⟩ := Js.formed_many hf (by omega)
    have HRL : Hid (∀ i, i ≤ n → (Js.runp (fun (i : Nat) (a : List UInt8) => (fun i a => Js.pj (it i) a) i (a ++ Js.comma i)) i (acc ++ [91])).length + 1 ≤ 549755813888) := by
      intro i hin
      have := Js.run_len (k := 5) (ks := ks) (it := it) (d := d) (n := n) acc hlong hit (fun _ _ => .inl rfl) (fun i out q => Js.pj_len d (it i) out q) i hin
      rw [Jw.run_list] at this
      have e : Js.open 5 = 91 := rfl
      rw [e] at this
      omega
    have HPJ := Lib.hid (Jw.pj_many (k := 5) (x := x) (b := y) (s := s) (n := n) (it := it) (m := m) (ks := ks) (acc := acc) hlong (by omega))
    rw [Jw.run_list, show Js.open 5 = 91 from rfl, show Js.shut 5 = 93 from rfl] at HPJ
    have HL := Lib.hid hl
    obtain ⟨ai, c, ak, d', rfl, -, -, -, -, -⟩ := hl
    have hlt := Jw.is_lt hi
    have HI := Lib.hid ((hi.alloc (.cells #[.pointer (some ⟨b, 0, none⟩)] 43)).alloc (.cells #[.int .i64 5, .int .i64 x, .int .u64 (y : Int), .string s, .slice ai n c, .slice ak m d'] 26))
    have HK := Lib.hid (((Jw.Kept.refl B b w).alloc (by omega) (.cells #[.pointer (some ⟨b, 0, none⟩)] 43)).alloc (by simp; omega) (.cells #[.int .i64 5, .int .i64 x, .int .u64 (y : Int), .string s, .slice ai n c, .slice ak m d'] 26))
    have HX := Lib.hid (Jw.Bx.start w b (.int .i64 5) (.int .i64 x) (.int .u64 (y : Int)) (.string s) (.slice ai n c) (.slice ak m d') hlt.1)
    have HPR : Hid (Jw.Pr w0 (.mk 5 x y s n it m ks) (.agg #[.int .i64 5, .int .i64 x, .int .u64 (y : Int), .string s, .slice ai n c, .slice ak m d']) B b w.heap.size (.int .i64 5) (.int .i64 x) (.int .u64 (y : Int)) (.string s) (.slice ai n c) (.slice ak m d') ((w.alloc (.cells #[.pointer (some ⟨b, 0, none⟩)] 43)).alloc (.cells #[.int .i64 5, .int .i64 x, .int .u64 (y : Int), .string s, .slice ai n c, .slice ak m d'] 26))) := ⟨HX.out, HL.out.below HK.out.back, h0.trans (HK.out.back.mono h0B), by simp; omega⟩
    have d1 : decide ((65536 : Int) < (acc.length : Int)) = false := decide_eq_false (by omega)
    have d1n : decide (65536 < acc.length) = false := decide_eq_false (by omega)
    have ln := Sh.Builder_Len_f B b _ _ HI.out
    rw [Lib.byteCells_length] at ln
    have y0 : ((w.alloc (.cells #[.pointer (some ⟨b, 0, none⟩)] 43)).alloc (.cells #[.int .i64 5, .int .i64 x, .int .u64 (y : Int), .string s, .slice ai n c, .slice ak m d'] 26)).cell? ⟨w.heap.size, 0, none⟩ = some (.pointer (some ⟨b, 0, none⟩)) := HX.out.out.cell 0 rfl
    obtain ⟨z0, z1, z2, z3, z4, z5⟩ := HX.out.val.cells
    have hmf : ∀ (fn : Fn) (first cap : Array Value) (w : World), (Instr.makeFunc fn first cap).run Tryz.prog w = .ok (.func fn first cap) w := fun _ _ _ _ => rfl
    have rw1 := Jw.row 41 (.pointer (some ⟨w.heap.size, 0, none⟩)) (.pointer (some ⟨w.heap.size + 1, 0, none⟩)) (fun x u => by simp [go_sem]) 91 93 n hn64 B b (fun i a => Js.pj (it i) a) (Jw.Pr w0 (.mk 5 x y s n it m ks) (.agg #[.int .i64 5, .int .i64 x, .int .u64 (y : Int), .string s, .slice ai n c, .slice ak m d']) B b w.heap.size (.int .i64 5) (.int .i64 x) (.int .u64 (y : Int)) (.string s) (.slice ai n c) (.slice ak m d')) (fun u u' h k => h.kept h0B k) (fun i acc u hin hacc hP hI => by
      obtain ⟨ai2, c2, ak2, d2, e, -, -, -, -, hi2⟩ := hP.lies
      obtain ⟨bi, oi, u0, u1, u2, u3, u4, u5, rfl, hbi, q0, q1, q2, q3, q4, q5, hli⟩ := hi2 i hin
      injection e with e
      injection e with e
      injection e with _ e
      injection e with _ e
      injection e with _ e
      injection e with _ e
      injection e with e _
      injection e with e _ _
      subst e
      exact Jw.part1 w0 (it i) B b w.heap.size (ih i hin) _ _ _ _ _ bi oi n c i hin hn64 acc u hP.box u0 u1 u2 u3 u4 u5 q0 q1 q2 q3 q4 q5 hli hI (by omega) hP.old) acc _ HPR.out HI.out (by omega) HRL.out
    clear hi hlong h0 hf hit HL HPR HX HRL ih
    generalize hW2 : (w.alloc (.cells #[.pointer (some ⟨b, 0, none⟩)] 43)).alloc (.cells #[.int .i64 5, .int .i64 x, .int .u64 (y : Int), .string s, .slice ai n c, .slice ak m d'] 26) = W2 at *
    have HW2 := Lib.hid hW2
    clear hW2
    go_enter Tryz.func16, Tryz.ntmps16
    go_wp2_with fail
    rw [HW2.out]
    go_wp2_with (first | (go_at_call 17; refine ln.mono ?_; rintro e w1 ⟨rfl, hw⟩; have hw := hw.symm; subst hw; clear ln) | (go_at_call 40; refine rw1.mono ?_; rintro e w4 ⟨rfl, i4, k4⟩; have HI4 := Lib.hid i4; have HK4 := Lib.hid (HK.out.trans k4); clear i4 k4 rw1))
    first | go_end0 | refine bodyPost_ret (results_none rfl _ _ _) rfl ?_
    exact ⟨rfl, by rw [HPJ.out]; exact HI4.out, HK4.out⟩
set_option maxRecDepth 100000 in
set_option maxHeartbeats 4000000 in
theorem Jw.record (w0 : World) (d : Nat) (hd : d ≤ 64) (x : Int) (y : Nat) (s : ByteArray) (n : Nat) (it : Nat → Vt) (m : Nat) (ks : Nat → ByteArray) (hT : Jt w0) (hok : Js.Ok (d + 1) (.mk 6 x y s n it m ks)) (B b : Nat) (h0B : w0.heap.size ≤ B) (ih : ∀ i, i < n → Jw.W w0 (it i) B b) : Jw.W w0 (.mk 6 x y s n it m ks) B b := by
  intro acc v w hl hi hlen h0
  by_cases hlong : 65536 < acc.length
  · rw [Js.pj_over hlong]
    exact Jw.long _ B b acc v w hl hi hlong
  · obtain ⟨hf, -, hit⟩ := hok
    obtain ⟨hn64, hq6⟩ := Js.formed_many hf (by omega)
    obtain ⟨hmn, hkey⟩ : n = m ∧ ∀ i, i < n → (ks i).size ≤ 32 := by
      rcases hq6 with ⟨q, _⟩ | ⟨_, q1, q2⟩
      · exact absurd q (by decide)
      · exact ⟨q1.symm, q2⟩
    subst hmn
    have HRL : Hid (∀ i, i ≤ n → (Js.runp (fun (i : Nat) (a : List UInt8) => (fun i a => Js.pj (it i) (a ++ (Js.quoted (ks i).data.toList ++ [58]))) i (a ++ Js.comma i)) i (acc ++ [123])).length + 1 ≤ 549755813888) := by
      intro i hin
      have := Js.run_len (k := 6) (ks := ks) (it := it) (d := d) (n := n) acc hlong hit (fun i q => .inr (hkey i q)) (fun i out q => Js.pj_len d (it i) out q) i hin
      rw [Jw.run_rec] at this
      have e : Js.open 6 = 123 := rfl
      rw [e] at this
      omega
    have HPJ := Lib.hid (Jw.pj_many (k := 6) (x := x) (b := y) (s := s) (n := n) (it := it) (m := n) (ks := ks) (acc := acc) hlong (by omega))
    rw [Jw.run_rec, show Js.open 6 = 123 from rfl, show Js.shut 6 = 125 from rfl] at HPJ
    have HL := Lib.hid hl
    obtain ⟨ai, c, ak, d', rfl, -, -, -, -, -⟩ := hl
    have hlt := Jw.is_lt hi
    have HI := Lib.hid ((hi.alloc (.cells #[.pointer (some ⟨b, 0, none⟩)] 43)).alloc (.cells #[.int .i64 6, .int .i64 x, .int .u64 (y : Int), .string s, .slice ai n c, .slice ak n d'] 26))
    have HK := Lib.hid (((Jw.Kept.refl B b w).alloc (by omega) (.cells #[.pointer (some ⟨b, 0, none⟩)] 43)).alloc (by simp; omega) (.cells #[.int .i64 6, .int .i64 x, .int .u64 (y : Int), .string s, .slice ai n c, .slice ak n d'] 26))
    have HX := Lib.hid (Jw.Bx.start w b (.int .i64 6) (.int .i64 x) (.int .u64 (y : Int)) (.string s) (.slice ai n c) (.slice ak n d') hlt.1)
    have HPR : Hid (Jw.Pr w0 (.mk 6 x y s n it n ks) (.agg #[.int .i64 6, .int .i64 x, .int .u64 (y : Int), .string s, .slice ai n c, .slice ak n d']) B b w.heap.size (.int .i64 6) (.int .i64 x) (.int .u64 (y : Int)) (.string s) (.slice ai n c) (.slice ak n d') ((w.alloc (.cells #[.pointer (some ⟨b, 0, none⟩)] 43)).alloc (.cells #[.int .i64 6, .int .i64 x, .int .u64 (y : Int), .string s, .slice ai n c, .slice ak n d'] 26))) := ⟨HX.out, HL.out.below HK.out.back, h0.trans (HK.out.back.mono h0B), by simp; omega⟩
    have d1 : decide ((65536 : Int) < (acc.length : Int)) = false := decide_eq_false (by omega)
    have d1n : decide (65536 < acc.length) = false := decide_eq_false (by omega)
    have ln := Sh.Builder_Len_f B b _ _ HI.out
    rw [Lib.byteCells_length] at ln
    have y0 : ((w.alloc (.cells #[.pointer (some ⟨b, 0, none⟩)] 43)).alloc (.cells #[.int .i64 6, .int .i64 x, .int .u64 (y : Int), .string s, .slice ai n c, .slice ak n d'] 26)).cell? ⟨w.heap.size, 0, none⟩ = some (.pointer (some ⟨b, 0, none⟩)) := HX.out.out.cell 0 rfl
    obtain ⟨z0, z1, z2, z3, z4, z5⟩ := HX.out.val.cells
    have hmf : ∀ (fn : Fn) (first cap : Array Value) (w : World), (Instr.makeFunc fn first cap).run Tryz.prog w = .ok (.func fn first cap) w := fun _ _ _ _ => rfl
    have rw1 := Jw.row 42 (.pointer (some ⟨w.heap.size, 0, none⟩)) (.pointer (some ⟨w.heap.size + 1, 0, none⟩)) (fun x u => by simp [go_sem]) 123 125 n hn64 B b (fun i a => Js.pj (it i) (a ++ (Js.quoted (ks i).data.toList ++ [58]))) (Jw.Pr w0 (.mk 6 x y s n it n ks) (.agg #[.int .i64 6, .int .i64 x, .int .u64 (y : Int), .string s, .slice ai n c, .slice ak n d']) B b w.heap.size (.int .i64 6) (.int .i64 x) (.int .u64 (y : Int)) (.string s) (.slice ai n c) (.slice ak n d')) (fun u u' h k => h.kept h0B k) (fun i acc u hin hacc hP hI => by
      obtain ⟨ai2, c2, ak2, d2, e, -, -, -, hk2, hi2⟩ := hP.lies
      obtain ⟨bi, oi, u0, u1, u2, u3, u4, u5, rfl, hbi, q0, q1, q2, q3, q4, q5, hli⟩ := hi2 i hin
      obtain ⟨bk, ok, rfl, hbk, qk⟩ := hk2.cell i hin
      injection e with e
      injection e with e
      injection e with _ e
      injection e with _ e
      injection e with _ e
      injection e with _ e
      injection e with e e6
      injection e with e _ _
      injection e6 with e6 _
      injection e6 with e6 _ _
      subst e
      subst e6
      have hsz : (⟨(Js.quoted (ks i).data.toList).toArray⟩ : ByteArray).size ≤ 600 := by
        rw [Rt.size]
        have := Js.quoted_len (ks i).data.toList
        rw [Wk.len_data] at this
        have := hkey i hin
        omega
      exact Jw.part2 w0 (it i) B b w.heap.size (ih i hin) _ _ _ _ bi oi _ c bk ok d' i hin hn64 acc (ks i) u hP.box qk hbk u0 u1 u2 u3 u4 u5 hbi q0 q1 q2 q3 q4 q5 hli hI hP.size h0B ⟨(Js.quoted (ks i).data.toList).toArray⟩ (by simp) (fun v hv => Jw.quoted (ks i) v (hT.on hv) (by have := hkey i hin; omega)) (by omega) hP.old) acc _ HPR.out HI.out (by omega) HRL.out
    clear hi hlong h0 hf hit HL HPR HX HRL ih
    generalize hW2 : (w.alloc (.cells #[.pointer (some ⟨b, 0, none⟩)] 43)).alloc (.cells #[.int .i64 6, .int .i64 x, .int .u64 (y : Int), .string s, .slice ai n c, .slice ak n d'] 26) = W2 at *
    have HW2 := Lib.hid hW2
    clear hW2
    go_enter Tryz.func16, Tryz.ntmps16
    go_wp2_with fail
    rw [HW2.out]
    go_wp2_with (first | (go_at_call 17; refine ln.mono ?_; rintro e w1 ⟨rfl, hw⟩; have hw := hw.symm; subst hw; clear ln) | (go_at_call 40; refine rw1.mono ?_; rintro e w4 ⟨rfl, i4, k4⟩; have HI4 := Lib.hid i4; have HK4 := Lib.hid (HK.out.trans k4); clear i4 k4 rw1))
    first | go_end0 | refine bodyPost_ret (results_none rfl _ _ _) rfl ?_
    exact ⟨rfl, by rw [HPJ.out]; exact HI4.out, HK4.out⟩
theorem Jw.write : ∀ (d : Nat) (t : Vt), Js.Ok d t → d ≤ 64 → ∀ (w0 : World) (B b : Nat), Jt w0 → w0.heap.size ≤ B → Jw.W w0 t B b
  | 0, _, h, _, _, _, _, _, _ => h.elim
  | _ + 1, .nil, h, _, _, _, _, _, _ => h.elim
  | d + 1, .mk k x y s n it m ks, hok, hd, w0, B, b, hT, h0B => by
    have hfm := hok.1
    have hby := hok.2.1
    have ih : ∀ i, i < n → Jw.W w0 (it i) B b := fun i hin => Jw.write d (it i) (hok.2.2 i hin) (by omega) w0 B b hT h0B
    by_cases hk : 0 ≤ k ∧ k < 5
    · intro acc v w hl hi hlen h0
      by_cases hlong : 65536 < acc.length
      · rw [Js.pj_over hlong]
        exact Jw.long _ B b acc v w hl hi hlong
      · have hsz := Js.leaf_len (it := it) hfm hk
        have hSz : (⟨(Js.put (.mk k x y s n it m ks)).toArray⟩ : ByteArray).size ≤ 2000000 := by rw [Rt.size]; omega
        have hTw := hT.on h0
        rcases Js.formed_leaf hfm with ⟨rfl, rfl⟩ | ⟨rfl, hx⟩ | ⟨rfl, hx⟩ | rfl | rfl | ⟨rfl, rfl⟩ | ⟨rfl, rfl⟩
        · exact Jw.null _ y s n it m ks B b acc v w hl hi hlong ⟨#[110, 117, 108, 108]⟩ (by rw [Js.put, if_pos rfl]) (by decide) rfl
        · refine Jw.bool x y s n it m ks B b acc v w hl hi hlong ⟨(Js.put (.mk 1 x y s n it m ks)).toArray⟩ (by simp) hSz (fun u => ?_)
          refine (Vm.bool (x == 1) u).mono fun e w' ⟨h1, h2⟩ => ⟨?_, h2 ▸ Below.refl _ _⟩
          rw [h1, show Js.put (.mk 1 x y s n it m ks) = if x = 1 then [116, 114, 117, 101] else [102, 97, 108, 115, 101] by rw [Js.put, if_neg (by decide), if_pos rfl]]
          by_cases hx1 : x = 1
          · rw [if_pos hx1, beq_iff_eq.2 hx1, if_pos rfl]
          · rw [if_neg hx1, beq_eq_false_iff_ne.2 hx1, if_neg Bool.false_ne_true]
        · refine Jw.int x y s n it m ks B b acc v w hl hi hlong ⟨(Js.put (.mk 2 x y s n it m ks)).toArray⟩ (by simp) hSz (fun u hu => ?_)
          rw [show Js.put (.mk 2 x y s n it m ks) = Lib.itoa x by rw [Js.put, if_neg (by omega), if_neg (by omega), if_pos rfl]]
          exact Rf.itoa x (by omega) (by omega) u (hTw.on hu).re
        · refine Jw.realv x y s n it m ks B b acc v w hl hi hlong ⟨(Js.put (.mk 3 x y s n it m ks)).toArray⟩ (by simp) hSz (fun u hu => ?_)
          rw [show Js.put (.mk 3 x y s n it m ks) = Js.real y by rw [Js.put, if_neg (by omega), if_neg (by omega), if_neg (by omega), if_pos rfl]]
          exact Jw.real y hby u (hTw.on hu)
        · refine Jw.text x y s n it m ks B b acc v w hl hi hlong ⟨(Js.put (.mk 4 x y s n it m ks)).toArray⟩ (by simp) hSz (fun u hu => ?_)
          rw [show Js.put (.mk 4 x y s n it m ks) = Js.quoted s.data.toList by rw [Js.put, if_neg (by omega), if_neg (by omega), if_neg (by omega), if_neg (by omega), if_pos rfl]]
          have h3 : s.size ≤ 65536 := by
            simp only [Vt.formed] at hfm
            simp at hfm
            exact hfm.1.1.1.1
          exact Jw.quoted s u (hTw.on hu) (by omega)
        · omega
        · omega
    · obtain ⟨-, h5 | h6⟩ := Js.formed_many hfm hk
      · obtain ⟨rfl, -⟩ := h5
        exact Jw.list w0 d (by omega) x y s n it m ks hok B b h0B ih
      · obtain ⟨rfl, -, -⟩ := h6
        exact Jw.record w0 d (by omega) x y s n it m ks hT hok B b h0B ih
theorem Jw.bits {w : World} {R : Nat → Prop} : ∀ {t : Vt} {v : Value}, t.Lies w R v → Js.Bits t := by
  intro t
  induction t with
  | nil => intro v h; exact h.elim
  | mk k x b s n it m ks ih =>
    intro v h
    obtain ⟨ai, c, ak, dk, rfl, hb, hn, hc, hk, hi⟩ := h
    refine ⟨hb, fun i q => ?_⟩
    obtain ⟨bi, oi, v0, v1, v2, v3, v4, v5, _, _, _, _, _, _, _, _, hli⟩ := hi i q
    exact ih i hli
set_option maxRecDepth 100000 in
set_option maxHeartbeats 4000000 in
theorem Jc.put (t : Vt) (v : Value) (w : World) (hT : Jt w) (hl : t.Lies w (· < w.heap.size) v) :
    Calls Tryz.prog 6 #[v] w fun e w' => e = .returned (.tuple #[.string ⟨(Js.said t).toArray⟩, .int .i64 (Js.err t)]) ∧ Below w.heap.size w w' := by
  have hm := fun (u : World) (hb : Below w.heap.size w u) => Vm.may t v u (hl.on' hb)
  have HFORM := hl.form
  have hbits := Jw.bits hl
  have HL := Lib.hid hl
  by_cases hmay : t.may = true
  · have hok := Js.ok_of_may hmay hbits
    have hj := fun (u : World) (hb : Below w.heap.size w u) => Jw.write 8 t hok (by omega) w u.heap.size u.heap.size hT hb.size [] v (u.alloc (.cells #[.pointer none, .slice none 0 0] 46)) ((HL.out.on' hb).below ((Below.refl _ _).alloc (Nat.le_refl _) _)) (.of (Lib.fresh_isBuilder 46 5 u)) (by simp) (hb.alloc hb.size _)
    obtain ⟨h1, h2⟩ := Js.pj_said t
    obtain ⟨P, hP⟩ : ∃ P, Js.pj t [] = P := ⟨_, rfl⟩
    rw [hP] at hj h1 h2
    rw [hmay] at hm
    by_cases hlong : 65536 < P.length
    · have es : Js.said t = [] := if_neg (fun q => by have := h1.1 hlong; omega)
      have ee : Js.err t = 1001 := by unfold Js.err; rw [if_pos hmay, if_neg (by have := h1.1 hlong; omega)]
      rw [es, ee]
      have d1 : decide ((65536 : Int) < (P.length : Int)) = true := decide_eq_true (by omega)
      clear h1 h2 hP hok hmay es ee hbits hl hlong hT
      obtain ⟨k, x, b, s, ai, n, c, ak, m, d, rfl⟩ := HFORM
      go_enter Tryz.func6, Tryz.ntmps6
      go_wp2_with (first | (go_at_call 15; refine (hm _ ((Below.refl _ w).alloc (Nat.le_refl _) _)).mono ?_; rintro e w1 ⟨rfl, b1⟩; have BX := Vm.box b1; obtain ⟨c0, c1, c2, c3, c4, c5⟩ := (BX.alloc BX.lt (.cells #[.pointer none, .slice none 0 0] 46)).cells; clear BX; replace b1 := ((Below.refl _ w).alloc (Nat.le_refl _) _).trans (b1.mono (by simp)); replace hj := hj w1 b1; have HB1 := Lib.hid b1; clear b1) | (go_at_call 16; refine hj.mono ?_; rintro e w2 ⟨rfl, I2, K2⟩; have ln := Sh.Builder_Len_f _ _ _ _ I2; rw [Lib.byteCells_length] at ln; have HB2 := Lib.hid ((HB1.out.alloc HB1.out.size _).trans (K2.back.mono HB1.out.size)); clear I2 K2) | (go_at_call 17; refine ln.mono ?_; rintro e w' ⟨rfl, hw⟩; have hw := hw.symm; subst hw; clear ln))
      go_ret2
      exact ⟨rfl, HB2.out⟩
    · have es : Js.said t = P := by unfold Js.said; rw [if_pos ⟨hmay, by have := mt h1.2 hlong; omega⟩, h2 hlong]
      have ee : Js.err t = 0 := by unfold Js.err; rw [if_pos hmay, if_pos (by have := mt h1.2 hlong; omega)]
      rw [es, ee]
      have d1 : decide ((65536 : Int) < (P.length : Int)) = false := decide_eq_false (by omega)
      clear h1 h2 hP hok hmay es ee hbits hl hlong hT
      obtain ⟨k, x, b, s, ai, n, c, ak, m, d, rfl⟩ := HFORM
      go_enter Tryz.func6, Tryz.ntmps6
      go_wp2_with (first | (go_at_call 15; refine (hm _ ((Below.refl _ w).alloc (Nat.le_refl _) _)).mono ?_; rintro e w1 ⟨rfl, b1⟩; have BX := Vm.box b1; obtain ⟨c0, c1, c2, c3, c4, c5⟩ := (BX.alloc BX.lt (.cells #[.pointer none, .slice none 0 0] 46)).cells; clear BX; replace b1 := ((Below.refl _ w).alloc (Nat.le_refl _) _).trans (b1.mono (by simp)); replace hj := hj w1 b1; have HB1 := Lib.hid b1; clear b1) | (go_at_call 16; refine hj.mono ?_; rintro e w2 ⟨rfl, I2, K2⟩; have ln := Sh.Builder_Len_f _ _ _ _ I2; rw [Lib.byteCells_length] at ln; have HI2 := Lib.hid I2; have HS2 : Hid (w1.heap.size ≤ w2.heap.size) := Nat.le_trans (by simp) K2.back.size; have HB2 := Lib.hid ((HB1.out.alloc HB1.out.size _).trans (K2.back.mono HB1.out.size)); clear I2 K2) | (go_at_call 17; refine ln.mono ?_; rintro e w' ⟨rfl, hw⟩; have hw := hw.symm; subst hw; clear ln) | (go_at_call 18; refine (Sh.Builder_String_any_k _ _ P _ HI2.out HS2.out).mono ?_; rintro e w5 ⟨rfl, _, b5, _⟩; have HB5 := Lib.hid (HB2.out.trans (b5.mono HB1.out.size)); clear b5))
      go_ret2
      exact ⟨rfl, HB5.out⟩
  · have es : Js.said t = [] := if_neg (fun q => hmay q.1)
    have ee : Js.err t = 1000 := by unfold Js.err; rw [if_neg hmay]
    rw [es, ee]
    rw [Bool.eq_false_iff.2 hmay] at hm
    clear es ee hbits hl hmay HL hT
    obtain ⟨k, x, b, s, ai, n, c, ak, m, d, rfl⟩ := HFORM
    go_enter Tryz.func6, Tryz.ntmps6
    go_wp2_with (go_at_call 15; refine (hm _ ((Below.refl _ w).alloc (Nat.le_refl _) _)).mono ?_; rintro e w1 ⟨rfl, b1⟩; obtain ⟨c0, c1, c2, c3, c4, c5⟩ := (Vm.box b1).cells; replace b1 := ((Below.refl _ w).alloc (Nat.le_refl _) _).trans (b1.mono (by simp)); have HB1 := Lib.hid b1; clear b1)
    go_ret2
    exact ⟨rfl, HB1.out⟩
end Go.Proofs.YtboalkfagfgnpaaGreatDoor

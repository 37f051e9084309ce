/-
  THE WALK of stolelaw1.UtfSigns: for any number it returns true, and turns nothing that was there.
-/
import Derived.Test.YthoneoemfkpgmaaDoorAwake
import Derived.Test.YthoneoemfkpgmaaDoorBytes
namespace Go.Proofs.YthoneoemfkpgmaaDoor
open Go.RowKit

/-- 'string(b)' of bytes that were just laid -/
theorem Sg.conv_new (W : World) (l : List UInt8) (n : Nat) (hn : l.length = n) (C : Array Value) (hC : C = (Lib.byteCells l).toArray) (S : ByteArray) (hS : S.data.toList = l) :
    (convert 26 9 (.slice (some ⟨W.heap.size, 0, none⟩) n n)).run Tryd.prog (W.alloc (.cells C 5)) = .ok (.string S) (W.alloc (.cells C 5)) := by
  have h := run_convert_bytes_back (P := Tryd.prog) (W.alloc (.cells C 5)) 26 9 5 ⟨W.heap.size, 0, none⟩ n l Tryd.underlying26 Tryd.underlying5 Tryd.underlying9 (fun j hj => by
    have e : (⟨W.heap.size, 0, none⟩ : Addr).add j = ⟨W.heap.size, j, none⟩ := by rw [Addr.add_lit, Nat.zero_add]
    rw [e, hC]
    have := World.cell?_alloc_mark W (Lib.byteCells l).toArray 5 (0, 0) j
    rw [this]
    simp [Lib.byteCells, hj])
  have e : (⟨l.toArray⟩ : ByteArray) = S := by
    apply ByteArray.ext
    apply Array.toList_inj.1
    rw [hS]
  rwa [hn, e] at h

/-- WHAT THE LAST ROW OF THE LAW ASKS OF A SIGN's TEXT, contract by contract -/
structure Sg.Tail (S R : ByteArray) (n : Nat) : Prop where
  size : S.size = n
  rsize : R.size = 3 * (n - 1) + 1
  c1 : ∀ w, Lib.Utf8Tabs 0 1 w → Calls Tryd.prog 8 #[.string S] w fun e w' => e = .returned (.bool true) ∧ Below w.heap.size w w'
  c2 : ∀ w, Lib.Utf8Tabs 0 1 w → Calls Tryd.prog 8 #[.string ({ data := #[97] } ++ S ++ { data := #[98] })] w fun e w' => e = .returned (.bool true) ∧ Below w.heap.size w w'
  c3 : ∀ w, Lib.Utf8Tabs 0 1 w → Calls Tryd.prog 10 #[.string S] w fun e w' => e = .returned (.string S) ∧ Below w.heap.size w w'
  c4 : ∀ w, Lib.Utf8Tabs 0 1 w → Calls Tryd.prog 8 #[.string (S ++ { data := #[128] })] w fun e w' => e = .returned (.bool false) ∧ Below w.heap.size w w'
  c5 : ∀ w, Lib.Utf8Tabs 0 1 w → Calls Tryd.prog 10 #[.string (S ++ { data := #[128] })] w fun e w' => e = .returned (.string (S ++ { data := #[239, 191, 189] })) ∧ Below w.heap.size w w'
  c6 : ∀ w, Lib.Utf8Tabs 0 1 w → Calls Tryd.prog 8 #[.string (S.extract 0 (n - 1))] w fun e w' => e = .returned (.bool (n == 1)) ∧ Below w.heap.size w w'
  c7 : ∀ w, Lib.Utf8Tabs 0 1 w → Calls Tryd.prog 10 #[.string (S.extract 0 (n - 1) ++ { data := #[122] })] w fun e w' => e = .returned (.string R) ∧ Below w.heap.size w w'

theorem Sg.ext {a b : ByteArray} (h : a.data.toList = b.data.toList) : a = b := ByteArray.ext (Array.toList_inj.1 h)
theorem Sg.cat_data (s t : ByteArray) : (s ++ t).data.toList = s.data.toList ++ t.data.toList := by
  rw [ByteArray.data_append, Array.toList_append]
theorem Sg.may_of (x : ByteArray) (l : List UInt8) (hx : x.data.toList = l) (b : Bool) (hb : Pl.mayL l = b) (hl : l.length ≤ 100) (w : World) (hT : Lib.Utf8Tabs 0 1 w) :
    Calls Tryd.prog 8 #[.string x] w fun e w' => e = .returned (.bool b) ∧ Below w.heap.size w w' := by
  have h := Wk.may x w hT (by rw [← Wk.len_data, hx]; unfold maxLen; omega)
  rwa [hx, hb] at h
theorem Sg.norm_of (x y : ByteArray) (l : List UInt8) (hx : x.data.toList = l) (hy : y.data.toList = Pl.normL l) (hl : l.length ≤ 100) (w : World) (hT : Lib.Utf8Tabs 0 1 w) :
    Calls Tryd.prog 10 #[.string x] w fun e w' => e = .returned (.string y) ∧ Below w.heap.size w w' := by
  have h := Wk.norm x w hT (by rw [← Wk.len_data, hx]; omega)
  have e : (⟨(Pl.normL x.data.toList).toArray⟩ : ByteArray) = y := Sg.ext (by rw [hx, hy])
  rwa [e] at h

theorem Sg.tail (S : ByteArray) (L : List UInt8) (n : Nat) (hS : S.data.toList = L) (h1 : Pl.OneSign L) (hn : L.length = n) (hn4 : n ≤ 4)
    (hc : Pl.mayL (L.take (n - 1)) = (n == 1)) (hr : (Pl.normL (L.take (n - 1) ++ [122])).length = 3 * (n - 1) + 1) :
    ∃ R, Sg.Tail S R n := by
  have hcut : (S.extract 0 (n - 1)).data.toList = L.take (n - 1) := by rw [Lib.extract_data, hS]; simp
  refine ⟨⟨(Pl.normL (L.take (n - 1) ++ [122])).toArray⟩, ?_, ?_, ?_, ?_, ?_, ?_, ?_, ?_, ?_⟩
  · rw [← Wk.len_data, hS, hn]
  · rw [← Wk.len_data]; exact hr
  · exact fun w hT => Sg.may_of S L hS true h1.may (by omega) w hT
  · exact fun w hT => Sg.may_of _ ([97] ++ L ++ [98]) (by rw [Sg.cat_data, Sg.cat_data, hS]) true h1.between (by simp; omega) w hT
  · exact fun w hT => Sg.norm_of S S L hS (by rw [hS, h1.norm]) (by omega) w hT
  · exact fun w hT => Sg.may_of _ (L ++ [128]) (by rw [Sg.cat_data, hS]) false h1.more (by simp; omega) w hT
  · exact fun w hT => Sg.norm_of _ _ (L ++ [128]) (by rw [Sg.cat_data, hS]) (by rw [Sg.cat_data, hS, h1.normMore]) (by simp; omega) w hT
  · exact fun w hT => Sg.may_of _ _ hcut _ hc (by rw [List.length_take]; omega) w hT
  · exact fun w hT => Sg.norm_of _ _ (L.take (n - 1) ++ [122]) (by rw [Sg.cat_data, hcut]) rfl (by rw [List.length_append, List.length_take]; simp; omega) w hT

/-- a number below 256 as a byte -/
theorem Sg.byte (z : Int) (h0 : 0 ≤ z) (h1 : z < 256) : ∃ a : UInt8, (a.toNat : Int) = z :=
  ⟨UInt8.ofNat z.toNat, by rw [UInt8.toNat_ofNat']; omega⟩

set_option maxHeartbeats 2000000 in
theorem Law.signs4 (x : Int) (j : Nat) (hx : bits .and .i64 x 1048575 = (j : Int)) (h1 : 65535 ≤ j) (h2 : j ≤ 1048575) (w : World) (hT : Lib.Utf8Tabs 0 1 w) :
    Calls Tryd.prog 6 #[.int .i64 x] w fun e w' => e = .returned (.bool true) ∧ Below w.heap.size w w' := by
  have q1 : (0 : Int) ≤ (j : Int) := by omega
  have q2 : (j : Int) ≤ 1048575 := by omega
  have d1 : decide ((55296 : Int) ≤ 1 + (j : Int)) = true := decide_eq_true (by omega)
  have d2 : decide (1 + (j : Int) ≤ 57343) = false := decide_eq_false (by omega)
  have d3 : decide ((65536 : Int) ≤ 1 + (j : Int)) = true := decide_eq_true (by omega)
  obtain ⟨z, hz⟩ := Sg.byte ((1 + (j : Int)) % 256) (by omega) (by omega)
  obtain ⟨a, ha⟩ := Sg.byte (240 + (1 + (j : Int)) / 262144) (by omega) (by omega)
  obtain ⟨b, hb⟩ := Sg.byte (128 + (1 + (j : Int)) / 4096 % 64) (by omega) (by omega)
  obtain ⟨c, hc⟩ := Sg.byte (128 + (1 + (j : Int)) / 64 % 64) (by omega) (by omega)
  obtain ⟨d, hd⟩ := Sg.byte (128 + (1 + (j : Int)) % 64) (by omega) (by omega)
  have f := Pl.four_facts (a := a) (b := b) (c := c) (d := d) (by omega) (by omega) (by omega) (by omega) (by omega) (by omega)
  obtain ⟨S, hS⟩ : ∃ S : ByteArray, S.data.toList = [a, b, c, d] := ⟨⟨#[a, b, c, d]⟩, rfl⟩
  obtain ⟨R, T⟩ := Sg.tail S [a, b, c, d] 4 hS f.1 rfl (by omega) f.2.1 f.2.2
  have e0 : (1 + (j : Int)) % 256 = (z.toNat : Int) := hz.symm
  have e1 : bits .or .i64 240 ((1 + (j : Int)) / 262144) % 256 = (a.toNat : Int) := by
    rw [Bt.or 4 240 _ (by omega) (by omega) (by omega) (by omega) (by omega) (by omega), ha]; omega
  have e2 : bits .or .i64 128 (bits .and .i64 ((1 + (j : Int)) / 4096) 63) % 256 = (b.toNat : Int) := by
    rw [Bt.and6, Bt.or 6 128 _ (by omega) (by omega) (by omega) (by omega) (by omega) (by omega), hb]; omega
  have e3 : bits .or .i64 128 (bits .and .i64 ((1 + (j : Int)) / 64) 63) % 256 = (c.toNat : Int) := by
    rw [Bt.and6, Bt.or 6 128 _ (by omega) (by omega) (by omega) (by omega) (by omega) (by omega), hc]; omega
  have e4 : bits .or .i64 128 (bits .and .i64 (1 + (j : Int)) 63) % 256 = (d.toNat : Int) := by
    rw [Bt.and6, Bt.or 6 128 _ (by omega) (by omega) (by omega) (by omega) (by omega) (by omega), hd]; omega
  clear hz ha hb hc hd f
  go_enter Tryd.func6, Tryd.ntmps6
  go_wp2_with fail
  refine (Wk.awake w hT).mono ?_
  rintro e w1 ⟨rfl, b1⟩
  have t1 := Utf8Tabs_below hT b1
  have hcv := Sg.conv_new (w1.alloc (.cells #[.int .u8 (z.toNat : Int)] 5)) [a, b, c, d] 4 rfl #[.int .u8 (a.toNat : Int), .int .u8 (b.toNat : Int), .int .u8 (c.toNat : Int), .int .u8 (d.toNat : Int)] rfl S hS
  have hsz : (w1.alloc (.cells #[.int .u8 (z.toNat : Int)] 5)).heap.size = w1.heap.size + 1 := by simp
  rw [hsz] at hcv
  clear hsz
  have hss := T.size
  go_wp2_with fail
  have bW : Below w1.heap.size w1 ((w1.alloc (.cells #[.int .u8 (z.toNat : Int)] 5)).alloc (.cells #[.int .u8 (a.toNat : Int), .int .u8 (b.toNat : Int), .int .u8 (c.toNat : Int), .int .u8 (d.toNat : Int)] 5)) := ((Below.refl _ _).alloc (Nat.le_refl _) _).alloc (by simp) _
  have t2 := Utf8Tabs_below t1 bW
  have b2 := Wk.below_step b1 bW
  clear t1 b1 bW hcv e0 e1 e2 e3 e4
  refine (T.c1 _ t2).mono ?_
  rintro e w3 ⟨rfl, b3⟩
  have t3 := Utf8Tabs_below t2 b3
  have b3' := Wk.below_step b2 b3
  clear t2 b2 b3
  go_wp2_with fail
  refine (T.c2 _ t3).mono ?_
  rintro e w4 ⟨rfl, b4⟩
  have t4 := Utf8Tabs_below t3 b4
  have b4' := Wk.below_step b3' b4
  clear t3 b3' b4
  go_wp2_with fail
  refine (T.c3 _ t4).mono ?_
  rintro e w5 ⟨rfl, b5⟩
  have t5 := Utf8Tabs_below t4 b5
  have b5' := Wk.below_step b4' b5
  clear t4 b4' b5
  go_wp2_with fail
  refine (T.c4 _ t5).mono ?_
  rintro e w6 ⟨rfl, b6⟩
  have t6 := Utf8Tabs_below t5 b6
  have b6' := Wk.below_step b5' b6
  clear t5 b5' b6
  go_wp2_with fail
  refine (T.c5 _ t6).mono ?_
  rintro e w7 ⟨rfl, b7⟩
  have t7 := Utf8Tabs_below t6 b7
  have b7' := Wk.below_step b6' b7
  clear t6 b6' b7
  go_wp2_with fail
  refine (T.c6 _ t7).mono ?_
  rintro e w8 ⟨rfl, b8⟩
  have t8 := Utf8Tabs_below t7 b8
  have b8' := Wk.below_step b7' b8
  clear t7 b7' b8
  go_wp2_with fail
  refine (T.c7 _ t8).mono ?_
  rintro e w9 ⟨rfl, b9⟩
  have b9' := Wk.below_step b8' b9
  clear t8 b8' b9
  have hrs := T.rsize
  go_wp2_with fail
  refine (Wk.num w9).mono ?_
  rintro e w10 ⟨rfl, rfl⟩
  go_wp2
  go_ret
  exact ⟨rfl, b9'⟩
set_option maxHeartbeats 2000000 in
theorem Law.signs3b (x : Int) (j : Nat) (hx : bits .and .i64 x 1048575 = (j : Int)) (h1 : 57343 ≤ j) (h2 : j < 65535) (w : World) (hT : Lib.Utf8Tabs 0 1 w) :
    Calls Tryd.prog 6 #[.int .i64 x] w fun e w' => e = .returned (.bool true) ∧ Below w.heap.size w w' := by
  have q1 : (0 : Int) ≤ (j : Int) := by omega
  have q2 : (j : Int) ≤ 1048575 := by omega
  have d1 : decide ((55296 : Int) ≤ 1 + (j : Int)) = true := decide_eq_true (by omega)
  have d2 : decide (1 + (j : Int) ≤ 57343) = false := decide_eq_false (by omega)
  have d3 : decide ((65536 : Int) ≤ 1 + (j : Int)) = false := decide_eq_false (by omega)
  have d4 : decide ((2048 : Int) ≤ 1 + (j : Int)) = true := decide_eq_true (by omega)
  obtain ⟨z, hz⟩ := Sg.byte ((1 + (j : Int)) % 256) (by omega) (by omega)
  obtain ⟨a, ha⟩ := Sg.byte (224 + (1 + (j : Int)) / 4096) (by omega) (by omega)
  obtain ⟨b, hb⟩ := Sg.byte (128 + (1 + (j : Int)) / 64 % 64) (by omega) (by omega)
  obtain ⟨c, hc⟩ := Sg.byte (128 + (1 + (j : Int)) % 64) (by omega) (by omega)
  have f := Pl.three_facts (a := a) (b := b) (c := c) (by omega) (by omega) (by omega) (by omega) (by omega)
  obtain ⟨S, hS⟩ : ∃ S : ByteArray, S.data.toList = [a, b, c] := ⟨⟨#[a, b, c]⟩, rfl⟩
  obtain ⟨R, T⟩ := Sg.tail S [a, b, c] 3 hS f.1 rfl (by omega) f.2.1 f.2.2
  have e0 : (1 + (j : Int)) % 256 = (z.toNat : Int) := hz.symm
  have e1 : bits .or .i64 224 ((1 + (j : Int)) / 4096) % 256 = (a.toNat : Int) := by
    rw [Bt.or 4 224 _ (by omega) (by omega) (by omega) (by omega) (by omega) (by omega), ha]; omega
  have e2 : bits .or .i64 128 (bits .and .i64 ((1 + (j : Int)) / 64) 63) % 256 = (b.toNat : Int) := by
    rw [Bt.and6, Bt.or 6 128 _ (by omega) (by omega) (by omega) (by omega) (by omega) (by omega), hb]; omega
  have e3 : bits .or .i64 128 (bits .and .i64 (1 + (j : Int)) 63) % 256 = (c.toNat : Int) := by
    rw [Bt.and6, Bt.or 6 128 _ (by omega) (by omega) (by omega) (by omega) (by omega) (by omega), hc]; omega
  clear hz ha hb hc f
  go_enter Tryd.func6, Tryd.ntmps6
  go_wp2_with fail
  refine (Wk.awake w hT).mono ?_
  rintro e w1 ⟨rfl, b1⟩
  have t1 := Utf8Tabs_below hT b1
  have hcv := Sg.conv_new (w1.alloc (.cells #[.int .u8 (z.toNat : Int)] 5)) [a, b, c] 3 rfl #[.int .u8 (a.toNat : Int), .int .u8 (b.toNat : Int), .int .u8 (c.toNat : Int)] rfl S hS
  have hsz : (w1.alloc (.cells #[.int .u8 (z.toNat : Int)] 5)).heap.size = w1.heap.size + 1 := by simp
  rw [hsz] at hcv
  clear hsz
  have hss := T.size
  go_wp2_with fail
  have bW : Below w1.heap.size w1 ((w1.alloc (.cells #[.int .u8 (z.toNat : Int)] 5)).alloc (.cells #[.int .u8 (a.toNat : Int), .int .u8 (b.toNat : Int), .int .u8 (c.toNat : Int)] 5)) := ((Below.refl _ _).alloc (Nat.le_refl _) _).alloc (by simp) _
  have t2 := Utf8Tabs_below t1 bW
  have b2 := Wk.below_step b1 bW
  clear t1 b1 bW hcv e0 e1 e2 e3
  refine (T.c1 _ t2).mono ?_
  rintro e w3 ⟨rfl, b3⟩
  have t3 := Utf8Tabs_below t2 b3
  have b3' := Wk.below_step b2 b3
  clear t2 b2 b3
  go_wp2_with fail
  refine (T.c2 _ t3).mono ?_
  rintro e w4 ⟨rfl, b4⟩
  have t4 := Utf8Tabs_below t3 b4
  have b4' := Wk.below_step b3' b4
  clear t3 b3' b4
  go_wp2_with fail
  refine (T.c3 _ t4).mono ?_
  rintro e w5 ⟨rfl, b5⟩
  have t5 := Utf8Tabs_below t4 b5
  have b5' := Wk.below_step b4' b5
  clear t4 b4' b5
  go_wp2_with fail
  refine (T.c4 _ t5).mono ?_
  rintro e w6 ⟨rfl, b6⟩
  have t6 := Utf8Tabs_below t5 b6
  have b6' := Wk.below_step b5' b6
  clear t5 b5' b6
  go_wp2_with fail
  refine (T.c5 _ t6).mono ?_
  rintro e w7 ⟨rfl, b7⟩
  have t7 := Utf8Tabs_below t6 b7
  have b7' := Wk.below_step b6' b7
  clear t6 b6' b7
  go_wp2_with fail
  refine (T.c6 _ t7).mono ?_
  rintro e w8 ⟨rfl, b8⟩
  have t8 := Utf8Tabs_below t7 b8
  have b8' := Wk.below_step b7' b8
  clear t7 b7' b8
  go_wp2_with fail
  refine (T.c7 _ t8).mono ?_
  rintro e w9 ⟨rfl, b9⟩
  have b9' := Wk.below_step b8' b9
  clear t8 b8' b9
  have hrs := T.rsize
  go_wp2_with fail
  refine (Wk.num w9).mono ?_
  rintro e w10 ⟨rfl, rfl⟩
  go_wp2
  go_ret
  exact ⟨rfl, b9'⟩
set_option maxHeartbeats 2000000 in
theorem Law.signs3a (x : Int) (j : Nat) (hx : bits .and .i64 x 1048575 = (j : Int)) (h1 : 2047 ≤ j) (h2 : j < 55295) (w : World) (hT : Lib.Utf8Tabs 0 1 w) :
    Calls Tryd.prog 6 #[.int .i64 x] w fun e w' => e = .returned (.bool true) ∧ Below w.heap.size w w' := by
  have q1 : (0 : Int) ≤ (j : Int) := by omega
  have q2 : (j : Int) ≤ 1048575 := by omega
  have d1 : decide ((55296 : Int) ≤ 1 + (j : Int)) = false := decide_eq_false (by omega)
  have d2 : decide ((65536 : Int) ≤ 1 + (j : Int)) = false := decide_eq_false (by omega)
  have d3 : decide ((2048 : Int) ≤ 1 + (j : Int)) = true := decide_eq_true (by omega)
  obtain ⟨z, hz⟩ := Sg.byte ((1 + (j : Int)) % 256) (by omega) (by omega)
  obtain ⟨a, ha⟩ := Sg.byte (224 + (1 + (j : Int)) / 4096) (by omega) (by omega)
  obtain ⟨b, hb⟩ := Sg.byte (128 + (1 + (j : Int)) / 64 % 64) (by omega) (by omega)
  obtain ⟨c, hc⟩ := Sg.byte (128 + (1 + (j : Int)) % 64) (by omega) (by omega)
  have f := Pl.three_facts (a := a) (b := b) (c := c) (by omega) (by omega) (by omega) (by omega) (by omega)
  obtain ⟨S, hS⟩ : ∃ S : ByteArray, S.data.toList = [a, b, c] := ⟨⟨#[a, b, c]⟩, rfl⟩
  obtain ⟨R, T⟩ := Sg.tail S [a, b, c] 3 hS f.1 rfl (by omega) f.2.1 f.2.2
  have e0 : (1 + (j : Int)) % 256 = (z.toNat : Int) := hz.symm
  have e1 : bits .or .i64 224 ((1 + (j : Int)) / 4096) % 256 = (a.toNat : Int) := by
    rw [Bt.or 4 224 _ (by omega) (by omega) (by omega) (by omega) (by omega) (by omega), ha]; omega
  have e2 : bits .or .i64 128 (bits .and .i64 ((1 + (j : Int)) / 64) 63) % 256 = (b.toNat : Int) := by
    rw [Bt.and6, Bt.or 6 128 _ (by omega) (by omega) (by omega) (by omega) (by omega) (by omega), hb]; omega
  have e3 : bits .or .i64 128 (bits .and .i64 (1 + (j : Int)) 63) % 256 = (c.toNat : Int) := by
    rw [Bt.and6, Bt.or 6 128 _ (by omega) (by omega) (by omega) (by omega) (by omega) (by omega), hc]; omega
  clear hz ha hb hc f
  go_enter Tryd.func6, Tryd.ntmps6
  go_wp2_with fail
  refine (Wk.awake w hT).mono ?_
  rintro e w1 ⟨rfl, b1⟩
  have t1 := Utf8Tabs_below hT b1
  have hcv := Sg.conv_new (w1.alloc (.cells #[.int .u8 (z.toNat : Int)] 5)) [a, b, c] 3 rfl #[.int .u8 (a.toNat : Int), .int .u8 (b.toNat : Int), .int .u8 (c.toNat : Int)] rfl S hS
  have hsz : (w1.alloc (.cells #[.int .u8 (z.toNat : Int)] 5)).heap.size = w1.heap.size + 1 := by simp
  rw [hsz] at hcv
  clear hsz
  have hss := T.size
  go_wp2_with fail
  have bW : Below w1.heap.size w1 ((w1.alloc (.cells #[.int .u8 (z.toNat : Int)] 5)).alloc (.cells #[.int .u8 (a.toNat : Int), .int .u8 (b.toNat : Int), .int .u8 (c.toNat : Int)] 5)) := ((Below.refl _ _).alloc (Nat.le_refl _) _).alloc (by simp) _
  have t2 := Utf8Tabs_below t1 bW
  have b2 := Wk.below_step b1 bW
  clear t1 b1 bW hcv e0 e1 e2 e3
  refine (T.c1 _ t2).mono ?_
  rintro e w3 ⟨rfl, b3⟩
  have t3 := Utf8Tabs_below t2 b3
  have b3' := Wk.below_step b2 b3
  clear t2 b2 b3
  go_wp2_with fail
  refine (T.c2 _ t3).mono ?_
  rintro e w4 ⟨rfl, b4⟩
  have t4 := Utf8Tabs_below t3 b4
  have b4' := Wk.below_step b3' b4
  clear t3 b3' b4
  go_wp2_with fail
  refine (T.c3 _ t4).mono ?_
  rintro e w5 ⟨rfl, b5⟩
  have t5 := Utf8Tabs_below t4 b5
  have b5' := Wk.below_step b4' b5
  clear t4 b4' b5
  go_wp2_with fail
  refine (T.c4 _ t5).mono ?_
  rintro e w6 ⟨rfl, b6⟩
  have t6 := Utf8Tabs_below t5 b6
  have b6' := Wk.below_step b5' b6
  clear t5 b5' b6
  go_wp2_with fail
  refine (T.c5 _ t6).mono ?_
  rintro e w7 ⟨rfl, b7⟩
  have t7 := Utf8Tabs_below t6 b7
  have b7' := Wk.below_step b6' b7
  clear t6 b6' b7
  go_wp2_with fail
  refine (T.c6 _ t7).mono ?_
  rintro e w8 ⟨rfl, b8⟩
  have t8 := Utf8Tabs_below t7 b8
  have b8' := Wk.below_step b7' b8
  clear t7 b7' b8
  go_wp2_with fail
  refine (T.c7 _ t8).mono ?_
  rintro e w9 ⟨rfl, b9⟩
  have b9' := Wk.below_step b8' b9
  clear t8 b8' b9
  have hrs := T.rsize
  go_wp2_with fail
  refine (Wk.num w9).mono ?_
  rintro e w10 ⟨rfl, rfl⟩
  go_wp2
  go_ret
  exact ⟨rfl, b9'⟩
set_option maxHeartbeats 2000000 in
theorem Law.signs2 (x : Int) (j : Nat) (hx : bits .and .i64 x 1048575 = (j : Int)) (h1 : 127 ≤ j) (h2 : j < 2047) (w : World) (hT : Lib.Utf8Tabs 0 1 w) :
    Calls Tryd.prog 6 #[.int .i64 x] w fun e w' => e = .returned (.bool true) ∧ Below w.heap.size w w' := by
  have q1 : (0 : Int) ≤ (j : Int) := by omega
  have q2 : (j : Int) ≤ 1048575 := by omega
  have d1 : decide ((55296 : Int) ≤ 1 + (j : Int)) = false := decide_eq_false (by omega)
  have d2 : decide ((65536 : Int) ≤ 1 + (j : Int)) = false := decide_eq_false (by omega)
  have d3 : decide ((2048 : Int) ≤ 1 + (j : Int)) = false := decide_eq_false (by omega)
  have d4 : decide ((128 : Int) ≤ 1 + (j : Int)) = true := decide_eq_true (by omega)
  obtain ⟨z, hz⟩ := Sg.byte ((1 + (j : Int)) % 256) (by omega) (by omega)
  obtain ⟨a, ha⟩ := Sg.byte (192 + (1 + (j : Int)) / 64) (by omega) (by omega)
  obtain ⟨b, hb⟩ := Sg.byte (128 + (1 + (j : Int)) % 64) (by omega) (by omega)
  have f := Pl.two_facts (a := a) (b := b) (by omega) (by omega)
  obtain ⟨S, hS⟩ : ∃ S : ByteArray, S.data.toList = [a, b] := ⟨⟨#[a, b]⟩, rfl⟩
  obtain ⟨R, T⟩ := Sg.tail S [a, b] 2 hS f.1 rfl (by omega) f.2.1 f.2.2
  have e0 : (1 + (j : Int)) % 256 = (z.toNat : Int) := hz.symm
  have e1 : bits .or .i64 192 ((1 + (j : Int)) / 64) % 256 = (a.toNat : Int) := by
    rw [Bt.or 5 192 _ (by omega) (by omega) (by omega) (by omega) (by omega) (by omega), ha]; omega
  have e2 : bits .or .i64 128 (bits .and .i64 (1 + (j : Int)) 63) % 256 = (b.toNat : Int) := by
    rw [Bt.and6, Bt.or 6 128 _ (by omega) (by omega) (by omega) (by omega) (by omega) (by omega), hb]; omega
  clear hz ha hb f
  go_enter Tryd.func6, Tryd.ntmps6
  go_wp2_with fail
  refine (Wk.awake w hT).mono ?_
  rintro e w1 ⟨rfl, b1⟩
  have t1 := Utf8Tabs_below hT b1
  have hcv := Sg.conv_new (w1.alloc (.cells #[.int .u8 (z.toNat : Int)] 5)) [a, b] 2 rfl #[.int .u8 (a.toNat : Int), .int .u8 (b.toNat : Int)] rfl S hS
  have hsz : (w1.alloc (.cells #[.int .u8 (z.toNat : Int)] 5)).heap.size = w1.heap.size + 1 := by simp
  rw [hsz] at hcv
  clear hsz
  have hss := T.size
  go_wp2_with fail
  have bW : Below w1.heap.size w1 ((w1.alloc (.cells #[.int .u8 (z.toNat : Int)] 5)).alloc (.cells #[.int .u8 (a.toNat : Int), .int .u8 (b.toNat : Int)] 5)) := ((Below.refl _ _).alloc (Nat.le_refl _) _).alloc (by simp) _
  have t2 := Utf8Tabs_below t1 bW
  have b2 := Wk.below_step b1 bW
  clear t1 b1 bW hcv e0 e1 e2
  refine (T.c1 _ t2).mono ?_
  rintro e w3 ⟨rfl, b3⟩
  have t3 := Utf8Tabs_below t2 b3
  have b3' := Wk.below_step b2 b3
  clear t2 b2 b3
  go_wp2_with fail
  refine (T.c2 _ t3).mono ?_
  rintro e w4 ⟨rfl, b4⟩
  have t4 := Utf8Tabs_below t3 b4
  have b4' := Wk.below_step b3' b4
  clear t3 b3' b4
  go_wp2_with fail
  refine (T.c3 _ t4).mono ?_
  rintro e w5 ⟨rfl, b5⟩
  have t5 := Utf8Tabs_below t4 b5
  have b5' := Wk.below_step b4' b5
  clear t4 b4' b5
  go_wp2_with fail
  refine (T.c4 _ t5).mono ?_
  rintro e w6 ⟨rfl, b6⟩
  have t6 := Utf8Tabs_below t5 b6
  have b6' := Wk.below_step b5' b6
  clear t5 b5' b6
  go_wp2_with fail
  refine (T.c5 _ t6).mono ?_
  rintro e w7 ⟨rfl, b7⟩
  have t7 := Utf8Tabs_below t6 b7
  have b7' := Wk.below_step b6' b7
  clear t6 b6' b7
  go_wp2_with fail
  refine (T.c6 _ t7).mono ?_
  rintro e w8 ⟨rfl, b8⟩
  have t8 := Utf8Tabs_below t7 b8
  have b8' := Wk.below_step b7' b8
  clear t7 b7' b8
  go_wp2_with fail
  refine (T.c7 _ t8).mono ?_
  rintro e w9 ⟨rfl, b9⟩
  have b9' := Wk.below_step b8' b9
  clear t8 b8' b9
  have hrs := T.rsize
  go_wp2_with fail
  refine (Wk.num w9).mono ?_
  rintro e w10 ⟨rfl, rfl⟩
  go_wp2
  go_ret
  exact ⟨rfl, b9'⟩
set_option maxHeartbeats 2000000 in
theorem Law.signs1 (x : Int) (j : Nat) (hx : bits .and .i64 x 1048575 = (j : Int)) (h2 : j < 127) (w : World) (hT : Lib.Utf8Tabs 0 1 w) :
    Calls Tryd.prog 6 #[.int .i64 x] w fun e w' => e = .returned (.bool true) ∧ Below w.heap.size w w' := by
  have q1 : (0 : Int) ≤ (j : Int) := by omega
  have q2 : (j : Int) ≤ 1048575 := by omega
  have d1 : decide ((55296 : Int) ≤ 1 + (j : Int)) = false := decide_eq_false (by omega)
  have d2 : decide ((65536 : Int) ≤ 1 + (j : Int)) = false := decide_eq_false (by omega)
  have d3 : decide ((2048 : Int) ≤ 1 + (j : Int)) = false := decide_eq_false (by omega)
  have d4 : decide ((128 : Int) ≤ 1 + (j : Int)) = false := decide_eq_false (by omega)
  obtain ⟨a, ha⟩ := Sg.byte (1 + (j : Int)) (by omega) (by omega)
  have f : Pl.OneSign [a] ∧ Pl.mayL ([a].take 0) = ((1 : Nat) == 1) ∧ (Pl.normL ([a].take 0 ++ [122])).length = 3 * (1 - 1) + 1 := ⟨Pl.one_of (by omega) (by omega), by show Pl.mayL [] = true; decide, by show (Pl.normL [122]).length = 1; decide⟩
  obtain ⟨S, hS⟩ : ∃ S : ByteArray, S.data.toList = [a] := ⟨⟨#[a]⟩, rfl⟩
  obtain ⟨R, T⟩ := Sg.tail S [a] 1 hS f.1 rfl (by omega) f.2.1 f.2.2
  clear f
  go_enter Tryd.func6, Tryd.ntmps6
  go_wp2_with fail
  refine (Wk.awake w hT).mono ?_
  rintro e w1 ⟨rfl, b1⟩
  have t1 := Utf8Tabs_below hT b1
  have hcv := Sg.conv_new w1 [a] 1 rfl #[.int .u8 (1 + (j : Int))] (by simp [Lib.byteCells, ha]) S hS
  clear ha
  have hss := T.size
  go_wp2_with fail
  have bW : Below w1.heap.size w1 (w1.alloc (.cells #[.int .u8 (1 + (j : Int))] 5)) := (Below.refl _ _).alloc (Nat.le_refl _) _
  have t2 := Utf8Tabs_below t1 bW
  have b2 := Wk.below_step b1 bW
  clear t1 b1 bW hcv
  refine (T.c1 _ t2).mono ?_
  rintro e w3 ⟨rfl, b3⟩
  have t3 := Utf8Tabs_below t2 b3
  have b3' := Wk.below_step b2 b3
  clear t2 b2 b3
  go_wp2_with fail
  refine (T.c2 _ t3).mono ?_
  rintro e w4 ⟨rfl, b4⟩
  have t4 := Utf8Tabs_below t3 b4
  have b4' := Wk.below_step b3' b4
  clear t3 b3' b4
  go_wp2_with fail
  refine (T.c3 _ t4).mono ?_
  rintro e w5 ⟨rfl, b5⟩
  have t5 := Utf8Tabs_below t4 b5
  have b5' := Wk.below_step b4' b5
  clear t4 b4' b5
  go_wp2_with fail
  refine (T.c4 _ t5).mono ?_
  rintro e w6 ⟨rfl, b6⟩
  have t6 := Utf8Tabs_below t5 b6
  have b6' := Wk.below_step b5' b6
  clear t5 b5' b6
  go_wp2_with fail
  refine (T.c5 _ t6).mono ?_
  rintro e w7 ⟨rfl, b7⟩
  have t7 := Utf8Tabs_below t6 b7
  have b7' := Wk.below_step b6' b7
  clear t6 b6' b7
  go_wp2_with fail
  refine (Sg.may_of ByteArray.empty [] rfl true (by decide) (by decide) _ t7).mono ?_
  rintro e w8 ⟨rfl, b8⟩
  have t8 := Utf8Tabs_below t7 b8
  have b8' := Wk.below_step b7' b8
  clear t7 b7' b8
  go_wp2_with fail
  refine (Sg.norm_of { data := #[122] } { data := #[122] } [122] rfl (by decide) (by decide) _ t8).mono ?_
  rintro e w9 ⟨rfl, b9⟩
  have b9' := Wk.below_step b8' b9
  clear t8 b8' b9
  go_wp2_with fail
  refine (Wk.num w9).mono ?_
  rintro e w10 ⟨rfl, rfl⟩
  go_wp2
  go_ret
  exact ⟨rfl, b9'⟩
theorem Law.signsNone (x : Int) (j : Nat) (hx : bits .and .i64 x 1048575 = (j : Int)) (h1 : 55295 ≤ j) (h2 : j < 57343) (w : World) (hT : Lib.Utf8Tabs 0 1 w) :
    Calls Tryd.prog 6 #[.int .i64 x] w fun e w' => e = .returned (.bool true) ∧ Below w.heap.size w w' := by
  have d1 : decide ((55296 : Int) ≤ 1 + (j : Int)) = true := decide_eq_true (by omega)
  have d2 : decide (1 + (j : Int) ≤ 57343) = true := decide_eq_true (by omega)
  have q1 : (0 : Int) ≤ (j : Int) := by omega
  have q2 : (j : Int) ≤ 1048575 := by omega
  go_enter Tryd.func6, Tryd.ntmps6
  go_wp2_with fail
  refine (Wk.awake w hT).mono ?_
  rintro e w1 ⟨rfl, b1⟩
  go_wp2
  go_ret
  exact ⟨rfl, b1⟩

theorem Law.signs (x : Int) (w : World) (hT : Lib.Utf8Tabs 0 1 w) :
    Calls Tryd.prog 6 #[.int .i64 x] w fun e w' => e = .returned (.bool true) ∧ Below w.heap.size w w' := by
  obtain ⟨j, hj⟩ := Int.eq_ofNat_of_zero_le (show (0 : Int) ≤ x % 1048576 by omega)
  have hx : bits .and .i64 x 1048575 = (j : Int) := (Bt.and20 x).trans hj
  have hm : j ≤ 1048575 := by omega
  by_cases h1 : j < 127
  · exact Law.signs1 x j hx h1 w hT
  by_cases h2 : j < 2047
  · exact Law.signs2 x j hx (by omega) h2 w hT
  by_cases h3 : j < 55295
  · exact Law.signs3a x j hx (by omega) h3 w hT
  by_cases h4 : j < 57343
  · exact Law.signsNone x j hx (by omega) h4 w hT
  by_cases h5 : j < 65535
  · exact Law.signs3b x j hx (by omega) h5 w hT
  exact Law.signs4 x j hx (by omega) hm w hT
end Go.Proofs.YthoneoemfkpgmaaDoor

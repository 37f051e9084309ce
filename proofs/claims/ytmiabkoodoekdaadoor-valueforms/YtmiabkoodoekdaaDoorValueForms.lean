/-
  THE WALK of stolelaw4.ValueForms.
-/
import Derived.Test.YtmiabkoodoekdaaDoorVRow
import Derived.Test.YtmiabkoodoekdaaDoorVPlain2
import Derived.Test.YtmiabkoodoekdaaDoorReDec
import Derived.Laws.MakeOwn
namespace Go.Proofs.YtmiabkoodoekdaaDoor
open Go.RowKit

theorem Bt.and6 (n : Int) : Go.bits .and .i64 n 63 = n % 64 := by
  have hm : (BitVec.ofInt 64 63).toNat = 2 ^ 6 - 1 := by decide
  have key : (BitVec.ofInt 64 n &&& BitVec.ofInt 64 63).toNat = (n % ((2 ^ 64 : Nat) : Int)).toNat % 2 ^ 6 := by
    rw [BitVec.toNat_and, BitVec.toNat_ofInt, hm, Nat.and_two_pow_sub_one_eq_mod]
  show IntKind.i64.wrap ((BitVec.ofInt 64 n &&& BitVec.ofInt 64 63).toNat : Nat) = n % 64
  rw [key, IntKind.wrap_i64]
  omega
theorem Vq.num (a : Int) (n : Nat) (h0 : 0 < n) : ∃ r : Nat, r < n ∧ (IntKind.u64.wrap a).tmod n = (r : Int) := by
  refine ⟨((IntKind.u64.wrap a).tmod n).toNat, ?_⟩
  rw [IntKind.wrap_u64]
  have h1 : 0 ≤ a % 18446744073709551616 := by omega
  rw [Int.tmod_eq_emod_of_nonneg h1]
  have h2 : 0 ≤ a % 18446744073709551616 % (n : Int) := Int.emod_nonneg _ (by omega)
  have h3 : a % 18446744073709551616 % (n : Int) < n := Int.emod_lt_of_pos _ (by omega)
  generalize a % 18446744073709551616 % (n : Int) = r at *
  exact ⟨by omega, by omega⟩
/-- a record of two, whatever its fields -/
def Vq.tree (k x : Int) (b : Nat) (s : ByteArray) (t0 t1 : Vt) (m : Nat) (k0 k1 : ByteArray) : Vt := .mk k x b s 2 (fun i => if i = 0 then t0 else t1) m (fun j => if j = 0 then k0 else k1)
theorem Vq.lies {W : World} {gI gK : Nat} {u0 u1 u2 u3 u4 u5 v0 v1 v2 v3 v4 v5 : Value} {t0 t1 : Vt} {k0 k1 : ByteArray} (hI : Vm.Has W gI (.cells #[u0, u1, u2, u3, u4, u5, v0, v1, v2, v3, v4, v5] 26)) (hK : Vm.Has W gK (.cells #[.string k0, .string k1] 9))
    (h0 : t0.Lies W (· < W.heap.size) (.agg #[u0, u1, u2, u3, u4, u5])) (h1 : t1.Lies W (· < W.heap.size) (.agg #[v0, v1, v2, v3, v4, v5])) (k x : Int) (b : Nat) (hb : b < 18446744073709551616) (s : ByteArray) (m : Nat) (hm : m ≤ 2) :
    (Vq.tree k x b s t0 t1 m k0 k1).Lies W (· < W.heap.size) (.agg #[.int .i64 k, .int .i64 x, .int .u64 (b : Int), .string s, .slice (some ⟨gI, 0, none⟩) 2 2, .slice (some ⟨gK, 0, none⟩) m 2]) := by
  refine ⟨_, _, _, _, rfl, hb, Nat.le_refl _, by decide, ⟨hm, by decide, fun j hj => ?_⟩, fun i hi => ?_⟩
  · refine ⟨gK, 0, rfl, hK.lt, hK.cell _ ?_⟩
    have : j = 0 ∨ j = 1 := by omega
    rcases this with rfl | rfl <;> rfl
  · have : i = 0 ∨ i = 1 := by omega
    rcases this with rfl | rfl
    · exact ⟨gI, 0, _, _, _, _, _, _, rfl, hI.lt, hI.cell _ rfl, hI.cell _ rfl, hI.cell _ rfl, hI.cell _ rfl, hI.cell _ rfl, hI.cell _ rfl, h0⟩
    · exact ⟨gI, 0, _, _, _, _, _, _, rfl, hI.lt, hI.cell _ rfl, hI.cell _ rfl, hI.cell _ rfl, hI.cell _ rfl, hI.cell _ rfl, hI.cell _ rfl, h1⟩
/-- what may not be: the value itself is not formed, or the first, or the second of its parts -/
theorem Vq.no {k x : Int} {b : Nat} {s : ByteArray} {t0 t1 : Vt} {m : Nat} {k0 k1 : ByteArray} (h : Vt.formed k x b s 2 m (fun j => if j = 0 then k0 else k1) = false) : (Vq.tree k x b s t0 t1 m k0 k1).may = false := by
  cases e : (Vq.tree k x b s t0 t1 m k0 k1).may with
  | false => rfl
  | true =>
    have f := Vt.fit_of _ 1 1024 e
    exact absurd f.1 (by rw [h]; simp)
theorem Vq.no0 {k x : Int} {b : Nat} {s : ByteArray} {t0 t1 : Vt} {m : Nat} {k0 k1 : ByteArray} (h : ¬ t0.fit) : (Vq.tree k x b s t0 t1 m k0 k1).may = false := by
  cases e : (Vq.tree k x b s t0 t1 m k0 k1).may with
  | false => rfl
  | true =>
    have f := Vt.fit_of _ 1 1024 e
    exact absurd (f.2 0 (by decide)) h
theorem Vq.no1 {k x : Int} {b : Nat} {s : ByteArray} {t0 t1 : Vt} {m : Nat} {k0 k1 : ByteArray} (h : ¬ t1.fit) : (Vq.tree k x b s t0 t1 m k0 k1).may = false := by
  cases e : (Vq.tree k x b s t0 t1 m k0 k1).may with
  | false => rfl
  | true =>
    have f := Vt.fit_of _ 1 1024 e
    exact absurd (f.2 1 (by decide)) h
theorem Vq.good : (Vq.tree 6 0 0 ⟨#[]⟩ (Vt.leaf 2 1 0 ⟨#[]⟩) (Vt.leaf 0 0 0 ⟨#[]⟩) 2 ⟨#[97]⟩ ⟨#[98]⟩).may = true := by
  simp [Vq.tree, Vt.may, Vt.stand, Vt.run, Vt.leaf, Vt.formed, Vt.keysOk, Vt.key, Vt.prev, Op.bytesLess, Vw.size]
theorem Vq.leaf_no {k x : Int} {b : Nat} {s : ByteArray} (h : Vt.formed k x b s 0 0 (fun _ => ⟨#[]⟩) = false) : ¬ (Vt.leaf k x b s).fit := fun f => by
  have g := f.1
  rw [h] at g
  cases g
theorem Vm.Has.drew {W : World} {g : Nat} {o : Obj} (h : Vm.Has W g o) : Vm.Has W.drew g o := h
theorem Vm.Box.drew {W : World} {g : Nat} {v0 v1 v2 v3 v4 v5 : Value} (h : Vm.Box W g v0 v1 v2 v3 v4 v5) : Vm.Box W.drew g v0 v1 v2 v3 v4 v5 := ⟨h.all⟩
/-- how things stand ahead of the switch -/
structure Vq.St (w W : World) (gV gI gK : Nat) : Prop where
  below : Below w.heap.size w W
  geK : w.heap.size ≤ gK
  ltI : gK < gI
  ltV : gI < gV
  boxV : Vm.Box W gV (.int .i64 6) (.int .i64 0) (.int .u64 0) (.string ⟨#[]⟩) (.slice (some ⟨gI, 0, none⟩) 2 2) (.slice (some ⟨gK, 0, none⟩) 2 2)
  items : Vm.Has W gI (.cells #[.int .i64 2, .int .i64 1, .int .u64 0, .string ⟨#[]⟩, .slice none 0 0, .slice none 0 0, .int .i64 0, .int .i64 0, .int .u64 0, .string ⟨#[]⟩, .slice none 0 0, .slice none 0 0] 26)
  keys : Vm.Has W gK (.cells #[.string ⟨#[97]⟩, .string ⟨#[98]⟩] 9)
theorem Vq.St.on {w W W' : World} {gV gI gK : Nat} (h : Vq.St w W gV gI gK) (hb : Below W.heap.size W W') : Vq.St w W' gV gI gK :=
  ⟨Vm.then h.below hb, h.geK, h.ltI, h.ltV, h.boxV.on h.boxV.lt hb, h.items.on hb, h.keys.on hb⟩
theorem Vq.St.alloc {w W : World} {gV gI gK : Nat} (h : Vq.St w W gV gI gK) (o : Obj) : Vq.St w (W.alloc o) gV gI gK := h.on ((Below.refl _ _).alloc (Nat.le_refl _) o)
theorem Vq.start {w w0 w1 : World} (B : Below w.heap.size w w0) (hb1 : Below (w0.alloc (.cells #[.string ⟨#[97]⟩, .string ⟨#[98]⟩] 9)).heap.size (w0.alloc (.cells #[.string ⟨#[97]⟩, .string ⟨#[98]⟩] 9)) w1) :
    Vq.St w ((w1.alloc (.cells #[.int .i64 2, .int .i64 1, .int .u64 0, .string ⟨#[]⟩, .slice none 0 0, .slice none 0 0, .int .i64 0, .int .i64 0, .int .u64 0, .string ⟨#[]⟩, .slice none 0 0, .slice none 0 0] 26)).alloc (.cells #[.int .i64 6, .int .i64 0, .int .u64 0, .string ⟨#[]⟩, .slice (some ⟨w1.heap.size, 0, none⟩) 2 2, .slice (some ⟨w0.heap.size, 0, none⟩) 2 2] 26)) (w1.heap.size + 1) w1.heap.size w0.heap.size := by
  have K1 := (Vm.Has.new w0 (.cells #[.string ⟨#[97]⟩, .string ⟨#[98]⟩] 9) _ rfl).on hb1
  have B1 := Vm.then B (Vm.behind hb1)
  have := K1.lt
  have := B1.size
  exact ⟨(B1.alloc (by omega) _).alloc (by simp; omega) _, B.size, K1.lt, by omega, ⟨Vm.Has.new _ _ _ (by simp)⟩, (Vm.Has.new w1 _ _ rfl).alloc _, (K1.alloc _).alloc _⟩

/-- 'make([]byte, n)' and its text -/
theorem Vq.make (n : Nat) (hn : n ≤ 1000000) : ∃ cur : Array Value, (∀ j, j < n → cur[j]? = some (.int .u8 0)) ∧ ∀ W : World, (Instr.makeSlice 57 (.int .i64 (n : Int)) (.int .i64 (n : Int))).run Tryd.prog W = .ok (.slice (some ⟨W.heap.size, 0, none⟩) n n) (W.alloc (.cells cur 5)) := by
  obtain ⟨i0, hi, hz0, hz1, hz2⟩ := info_parts Dm.info5
  refine ⟨madeCells (Value.int .u8 0).cells (n * i0.size), fun j hj => ?_, fun W => ?_⟩
  · rw [hz1]
    simp [madeCells, Value.cells, hj, Nat.mod_one]
  · have := run_makeSlice (P := Tryd.prog) W 57 5 i0 (.int .u8 0) Tryd.underlying57 hi hz0 .i64 .i64 (n : Int) (n : Int) (by omega) (Int.le_refl _) (by rw [hz1]; omega) (by rw [hz2]; omega) (by omega)
    simp only [Int.toNat_natCast] at this
    exact this
theorem Vq.text (n : Nat) (cur : Array Value) (hc : ∀ j, j < n → cur[j]? = some (.int .u8 0)) : ∃ S : ByteArray, S.size = n ∧ ∀ (W : World) (g : Nat), Vm.Has W g (.cells cur 5) → (convert 57 9 (.slice (some ⟨g, 0, none⟩) n n)).run Tryd.prog W = .ok (.string S) W := by
  refine ⟨⟨(List.replicate n (0 : UInt8)).toArray⟩, ?_, fun W g hg => ?_⟩
  · show (List.replicate n (0 : UInt8)).toArray.size = n
    simp
  · have := run_convert_bytes_back (P := Tryd.prog) W 57 9 5 ⟨g, 0, none⟩ n (List.replicate n (0 : UInt8)) Tryd.underlying57 Tryd.underlying5 Tryd.underlying9 (fun j hj => by
      have hj' : j < n := by simpa using hj
      rw [Vc.add, Nat.zero_add]
      refine hg.cell j ?_
      rw [hc j hj']
      simp)
    rw [List.length_replicate] at this
    exact this
/-- 'make([]api.Value, n)' -/
theorem Vq.makeV (n : Nat) (hn : n ≤ 1000) : ∃ cur : Array Value, (∀ i, i < n → cur[i * 6]? = some (.int .i64 0) ∧ cur[i * 6 + 1]? = some (.int .i64 0) ∧ cur[i * 6 + 2]? = some (.int .u64 0) ∧ cur[i * 6 + 3]? = some (.string ⟨#[]⟩) ∧ cur[i * 6 + 4]? = some (.slice none 0 0) ∧ cur[i * 6 + 5]? = some (.slice none 0 0)) ∧ ∀ W : World, (Instr.makeSlice 23 (.int .i64 (n : Int)) (.int .i64 (n : Int))).run Tryd.prog W = .ok (.slice (some ⟨W.heap.size, 0, none⟩) n n) (W.alloc (.cells cur 26)) := by
  obtain ⟨iV, hiV, hzV, hsV, hbV⟩ := info_parts Vc.infoV
  refine ⟨madeCells (Value.agg #[.int .i64 0, .int .i64 0, .int .u64 0, .string ⟨#[]⟩, .slice none 0 0, .slice none 0 0]).cells (n * iV.size), fun i hi => ?_, fun W => ?_⟩
  · rw [hsV]
    have at6 : ∀ r, r < 6 → (madeCells (Value.agg #[.int .i64 0, .int .i64 0, .int .u64 0, .string ⟨#[]⟩, .slice none 0 0, .slice none 0 0]).cells (n * 6))[i * 6 + r]? = (#[Value.int .i64 0, .int .i64 0, .int .u64 0, .string ⟨#[]⟩, .slice none 0 0, .slice none 0 0] : Array Value)[r]? := by
      intro r hr
      have h1 : i * 6 + r < n * 6 := by omega
      have h2 : (i * 6 + r) % 6 = r := by omega
      have h3 : r = 0 ∨ r = 1 ∨ r = 2 ∨ r = 3 ∨ r = 4 ∨ r = 5 := by omega
      have h4 : i * 6 < n * 6 := by omega
      have h5 : i * 6 % 6 = 0 := by omega
      rcases h3 with rfl | rfl | rfl | rfl | rfl | rfl
      · simp [madeCells, Value.cells, h4, h5]
      all_goals simp [madeCells, Value.cells, h1, h2]
    exact ⟨at6 0 (by decide), at6 1 (by decide), at6 2 (by decide), at6 3 (by decide), at6 4 (by decide), at6 5 (by decide)⟩
  · have := run_makeSlice (P := Tryd.prog) W 23 26 iV _ Tryd.underlying23 hiV hzV .i64 .i64 (n : Int) (n : Int) (by omega) (Int.le_refl _) (by rw [hsV]; omega) (by rw [hbV]; omega) (by omega)
    simp only [Int.toNat_natCast] at this
    exact this
def Vq.many (n : Nat) : Vt := .mk 5 0 0 ⟨#[]⟩ n (fun _ => Vt.leaf 0 0 0 ⟨#[]⟩) 0 (fun _ => ⟨#[]⟩)
theorem Vq.many_lies {W : World} {g n : Nat} {cur : Array Value} (hc : ∀ i, i < n → cur[i * 6]? = some (.int .i64 0) ∧ cur[i * 6 + 1]? = some (.int .i64 0) ∧ cur[i * 6 + 2]? = some (.int .u64 0) ∧ cur[i * 6 + 3]? = some (.string ⟨#[]⟩) ∧ cur[i * 6 + 4]? = some (.slice none 0 0) ∧ cur[i * 6 + 5]? = some (.slice none 0 0)) (hn : n ≤ 1000) (hg : Vm.Has W g (.cells cur 26)) : (Vq.many n).Lies W (· < W.heap.size) (.agg #[.int .i64 5, .int .i64 0, .int .u64 0, .string ⟨#[]⟩, .slice (some ⟨g, 0, none⟩) n n, .slice none 0 0]) := by
  refine ⟨_, _, _, _, rfl, by decide, Nat.le_refl _, by unfold maxLen; omega, ⟨Nat.le_refl _, by decide, fun j hj => absurd hj (by omega)⟩, fun i hi => ?_⟩
  obtain ⟨x0, x1, x2, x3, x4, x5⟩ := hc i hi
  refine ⟨g, 0, _, _, _, _, _, _, rfl, hg.lt, ?_, ?_, ?_, ?_, ?_, ?_, Vt.leaf_lies 0 0 0 ⟨#[]⟩ (by decide) _ _⟩
  all_goals rw [Nat.zero_add]
  · exact hg.cell _ x0
  · exact hg.cell _ x1
  · exact hg.cell _ x2
  · exact hg.cell _ x3
  · exact hg.cell _ x4
  · exact hg.cell _ x5
def Vq.keyed : Vt := .mk 0 0 0 ⟨#[]⟩ 0 (fun _ => .nil) 1 (fun _ => ⟨#[107]⟩)
theorem Vq.keyed_lies {W : World} {g : Nat} (hg : Vm.Has W g (.cells #[.string ⟨#[107]⟩] 9)) : Vq.keyed.Lies W (· < W.heap.size) (.agg #[.int .i64 0, .int .i64 0, .int .u64 0, .string ⟨#[]⟩, .slice none 0 0, .slice (some ⟨g, 0, none⟩) 1 1]) := by
  refine ⟨_, _, _, _, rfl, by decide, Nat.le_refl _, by decide, ⟨Nat.le_refl _, by decide, fun j hj => ?_⟩, fun i hi => absurd hi (by omega)⟩
  have : j = 0 := by omega
  subst this
  exact ⟨g, 0, rfl, hg.lt, hg.cell _ rfl⟩
theorem Vq.keyed_no : ¬ Vq.keyed.fit := fun f => by
  have g := f.1
  simp [Vt.formed] at g
theorem Vq.many_no (n : Nat) (h : 64 < n) : ¬ (Vq.many n).fit := fun f => by
  have g := f.1
  simp [Vt.formed] at g
  omega
theorem Vm.stillAt {P : Program} {ops : Array Oper} {Q : Exit → Act → World → Prop} {l : List Oper} {a : Act} {W : World} (F : World → Prop) (hF : F W) (h : ∀ W2, F W2 → wpList P ops Q l a W2) : Vm.Still (wpList P ops Q l a W) := ⟨h _ hF⟩
/-- the variable holds a value that may not be -/
def Vq.Bad (w : World) (gV : Nat) (W : World) : Prop := ∃ (t : Vt) (k x : Int) (b : Nat) (s : ByteArray) (ai : Option Addr) (n c : Nat) (ak : Option Addr) (m d : Nat), Below w.heap.size w W ∧ Vm.Box W gV (.int .i64 k) (.int .i64 x) (.int .u64 (b : Int)) (.string s) (.slice ai n c) (.slice ak m d) ∧ t.Lies W (· < W.heap.size) (.agg #[.int .i64 k, .int .i64 x, .int .u64 (b : Int), .string s, .slice ai n c, .slice ak m d]) ∧ t.may = false
set_option maxRecDepth 100000 in
set_option maxHeartbeats 16000000 in
theorem Vx.forms (a : Int) (_ : -9223372036854775808 ≤ a ∧ a ≤ 9223372036854775807) (x : Int) (_ : -9223372036854775808 ≤ x ∧ x ≤ 9223372036854775807) (w : World) (ht : Re.Tabs w) :
    Calls Tryd.prog 6 #[.int .i64 a, .int .i64 x] w fun e w' => e = .returned (.bool true) ∧ Below w.heap.size w w' := by
  obtain ⟨r, hr, hra⟩ := Vq.num a 15 (by decide)
  simp only [Int.cast_ofNat_Int] at hra
  obtain ⟨c, hc, hcx⟩ : ∃ c : Nat, c < 64 ∧ Go.bits .and .i64 x 63 = (c : Int) := ⟨(x % 64).toNat, by omega, by rw [Bt.and6]; omega⟩
  go_enter Tryd.func6, Tryd.ntmps6
  go_wp2_with fail
  refine (Vw.awake w ht).mono ?_
  rintro e w0 ⟨rfl, B⟩
  go_wp2_with fail
  refine (Vn.num 1 _).mono ?_
  rintro e w1 ⟨rfl, hb1⟩
  go_wp2_with fail
  have S := Vq.start B hb1
  clear B hb1
  generalize (w1.alloc (.cells #[.int .i64 2, .int .i64 1, .int .u64 0, .string ⟨#[]⟩, .slice none 0 0, .slice none 0 0, .int .i64 0, .int .i64 0, .int .u64 0, .string ⟨#[]⟩, .slice none 0 0, .slice none 0 0] 26)).alloc (.cells #[.int .i64 6, .int .i64 0, .int .u64 0, .string ⟨#[]⟩, .slice (some ⟨w1.heap.size, 0, none⟩) 2 2, .slice (some ⟨w0.heap.size, 0, none⟩) 2 2] 26) = W0 at *
  generalize hgV : w1.heap.size + 1 = gV at *
  generalize w1.heap.size = gI at *
  generalize w0.heap.size = gK at *
  clear hgV
  refine (Vm.may (Vq.tree 6 0 0 ⟨#[]⟩ (Vt.leaf 2 1 0 ⟨#[]⟩) (Vt.leaf 0 0 0 ⟨#[]⟩) 2 ⟨#[97]⟩ ⟨#[98]⟩) _ _ (Vq.lies S.items S.keys (Vw.iLies 1 _ _) (Vt.leaf_lies 0 0 0 ⟨#[]⟩ (by decide) _ _) 6 0 0 (by decide) ⟨#[]⟩ 2 (by decide))).mono ?_
  rintro e W ⟨rfl, hb'⟩
  rw [Vq.good]
  replace S := S.on hb'
  have HT := Lib.hid ht
  clear hb' ht
  have hlV := S.boxV.lt
  have hge := S.geK
  have hl1 := S.ltI
  have hl2 := S.ltV
  obtain ⟨c0, c1, c2, c3, c4, c5⟩ := S.boxV.cells
  obtain ⟨ci0, ci1, ci2, ci3, ci4, ci5⟩ : W.cell? ⟨gI, 0, none⟩ = some (.int .i64 2) ∧ W.cell? ⟨gI, 1, none⟩ = some (.int .i64 1) ∧ W.cell? ⟨gI, 2, none⟩ = some (.int .u64 0) ∧ W.cell? ⟨gI, 3, none⟩ = some (.string ⟨#[]⟩) ∧ W.cell? ⟨gI, 4, none⟩ = some (.slice none 0 0) ∧ W.cell? ⟨gI, 5, none⟩ = some (.slice none 0 0) := ⟨S.items.cell 0 rfl, S.items.cell 1 rfl, S.items.cell 2 rfl, S.items.cell 3 rfl, S.items.cell 4 rfl, S.items.cell 5 rfl⟩
  obtain ⟨di0, di1, di2, di3, di4, di5⟩ : W.cell? ⟨gI, 6, none⟩ = some (.int .i64 0) ∧ W.cell? ⟨gI, 7, none⟩ = some (.int .i64 0) ∧ W.cell? ⟨gI, 8, none⟩ = some (.int .u64 0) ∧ W.cell? ⟨gI, 9, none⟩ = some (.string ⟨#[]⟩) ∧ W.cell? ⟨gI, 10, none⟩ = some (.slice none 0 0) ∧ W.cell? ⟨gI, 11, none⟩ = some (.slice none 0 0) := ⟨S.items.cell 6 rfl, S.items.cell 7 rfl, S.items.cell 8 rfl, S.items.cell 9 rfl, S.items.cell 10 rfl, S.items.cell 11 rfl⟩
  have ck0 := S.keys.cell 0 rfl
  have ck1 := S.keys.cell 1 rfl
  have fV := fun i => S.boxV.frozen i
  have fI := fun i => S.items.frozen i
  have fK := fun i => S.keys.frozen i
  have HS := Lib.hid S
  clear S
  have hr15 : r = 0 ∨ r = 1 ∨ r = 2 ∨ r = 3 ∨ r = 4 ∨ r = 5 ∨ r = 6 ∨ r = 7 ∨ r = 8 ∨ r = 9 ∨ r = 10 ∨ r = 11 ∨ r = 12 ∨ r = 13 ∨ r = 14 := by omega
  rcases hr15 with rfl | rfl | rfl | rfl | rfl | rfl | rfl | rfl | rfl | rfl | rfl | rfl | rfl | rfl | rfl
  · skip
    go_wp2_with (refine Vm.stop 125 ?_)
    refine Vm.stillAt (Vq.Bad w gV) (⟨_, _, _, _, _, _, _, _, _, _, _, HS.out.below.setCell (by simp; omega) _, HS.out.boxV.set0 _, Vq.lies (HS.out.items.other (by omega) _ _) (HS.out.keys.other (by omega) _ _) (Vw.iLies 1 _ _) (Vt.leaf_lies 0 0 0 ⟨#[]⟩ (by decide) _ _) (6 + (1 + (c : Int))) (0) (0) (by decide) ⟨#[]⟩ 2 (by decide), Vq.no (by simp [Vt.formed]; omega)⟩) ?_
    rintro W2 ⟨t, k1, x1, b1, s1, ai1, n1, e1, ak1, m1, d1, hb, hB, hl, hm⟩
    clear c0 c1 c2 c3 c4 c5 ci0 ci1 ci2 ci3 ci4 ci5 di0 di1 di2 di3 di4 di5 ck0 ck1 fV fI fK
    have HB := Lib.hid hB
    have HL := Lib.hid hl
    have HM := Lib.hid hm
    have HTT := Lib.hid (HT.out.on hb)
    obtain ⟨z0, z1, z2, z3, z4, z5⟩ := hB.cells
    clear hB hl hm
    go_wp2_with fail
    refine (Vm.told t _ _ HL.out HTT.out).mono ?_
    rintro e W3 ⟨rfl, hb'⟩
    rw [Vt.told_no HM.out]
    have hbA := Vm.then hb hb'
    have HBA := Lib.hid (HB.out.on HB.out.lt hb')
    have HLA := Lib.hid (HL.out.on' hb')
    clear hb hb' HB HL HTT z0 z1 z2 z3 z4 z5
    obtain ⟨z0, z1, z2, z3, z4, z5⟩ := HBA.out.cells
    go_wp2_with fail
    refine (Vl.less t t _ _ _ HLA.out HLA.out).mono ?_
    rintro e W4 ⟨rfl, hb'⟩
    rw [Vt.less_no (.inl HM.out)]
    have hbB := Vm.then hbA hb'
    have HBB := Lib.hid (HBA.out.on HBA.out.lt hb')
    have HLB := Lib.hid (HLA.out.on' hb')
    clear hbA hb' HBA HLA z0 z1 z2 z3 z4 z5
    obtain ⟨z0, z1, z2, z3, z4, z5⟩ := HBB.out.cells
    go_wp2_with fail
    refine (Vg.get t _ 0 (fun _ => ⟨#[]⟩) none 0 _ HLB.out ⟨Nat.le_refl _, by decide, fun j hj => absurd hj (by omega)⟩).mono ?_
    rintro e W5 ⟨v', rfl, hown, hb'⟩
    rw [Vt.get_no HM.out] at hown ⊢
    obtain ⟨k5, x5, b5, s5, ai5, n5, d5, ak5, m5, e5, rfl⟩ := hown.form
    replace hb' := Vm.then hb' ((Below.refl _ _).alloc (Nat.le_refl _) (.cells #[.int .i64 k5, .int .i64 x5, .int .u64 (b5 : Int), .string s5, .slice ai5 n5 d5, .slice ak5 m5 e5] 26))
    have hbC := Vm.then hbB hb'
    have HBC := Lib.hid (HBB.out.on HBB.out.lt hb')
    have HLC := Lib.hid (HLB.out.on' hb')
    clear hbB hb' HBB HLB hown z0 z1 z2 z3 z4 z5
    have YC := HBC.out.cells
    go_wp2_with (refine Vm.stop 143 ?_)
    generalize W5.alloc (.cells #[.int .i64 k5, .int .i64 x5, .int .u64 (b5 : Int), .string s5, .slice ai5 n5 d5, .slice ak5 m5 e5] 26) = W6 at *
    constructor
    obtain ⟨z0, z1, z2, z3, z4, z5⟩ := YC
    go_wp2_with fail
    refine (Vm.may t _ _ HLC.out).mono ?_
    rintro e W7 ⟨rfl, hb'⟩
    rw [HM.out]
    have hbD := Vm.then hbC hb'
    have HBD := Lib.hid (HBC.out.on HBC.out.lt hb')
    have HLD := Lib.hid (HLC.out.on' hb')
    clear hbC hb' HBC HLC z0 z1 z2 z3 z4 z5
    obtain ⟨z0, z1, z2, z3, z4, z5⟩ := HBD.out.cells
    go_wp2_with fail
    refine (Vm.truth t _ _ HLD.out).mono ?_
    rintro e W8 ⟨rfl, hb'⟩
    rw [Vt.truth_no HM.out]
    have hbE := Vm.then hbD hb'
    have HBE := Lib.hid (HBD.out.on HBD.out.lt hb')
    have HLE := Lib.hid (HLD.out.on' hb')
    clear hbD hb' HBD HLD z0 z1 z2 z3 z4 z5
    obtain ⟨z0, z1, z2, z3, z4, z5⟩ := HBE.out.cells
    go_wp2_with fail
    refine (Va.same t t _ _ _ HLE.out HLE.out).mono ?_
    rintro e W9 ⟨rfl, hb'⟩
    rw [Vt.same_no (.inl HM.out)]
    have hbF := Vm.then hbE hb'
    clear hbE hb' HBE HLE z0 z1 z2 z3 z4 z5
    go_wp2_with fail
    refine (Vn.errno 400 _).mono ?_
    rintro e W9 ⟨rfl, rfl⟩
    go_wp2_with fail
    refine (Vn.errno 400 _).mono ?_
    rintro e W9 ⟨rfl, rfl⟩
    go_wp2_with fail
    refine (Vn.errno 400 _).mono ?_
    rintro e W9 ⟨rfl, rfl⟩
    go_wp2
    go_ret
    exact ⟨rfl, hbF⟩
  · skip
    go_wp2_with (refine Vm.stop 125 ?_)
    refine Vm.stillAt (Vq.Bad w gV) (⟨_, _, _, _, _, _, _, _, _, _, _, HS.out.below.setCell (by simp; omega) _, HS.out.boxV.set0 _, Vq.lies (HS.out.items.other (by omega) _ _) (HS.out.keys.other (by omega) _ _) (Vw.iLies 1 _ _) (Vt.leaf_lies 0 0 0 ⟨#[]⟩ (by decide) _ _) (-(1 + (c : Int))) (0) (0) (by decide) ⟨#[]⟩ 2 (by decide), Vq.no (by simp [Vt.formed]; omega)⟩) ?_
    rintro W2 ⟨t, k1, x1, b1, s1, ai1, n1, e1, ak1, m1, d1, hb, hB, hl, hm⟩
    clear c0 c1 c2 c3 c4 c5 ci0 ci1 ci2 ci3 ci4 ci5 di0 di1 di2 di3 di4 di5 ck0 ck1 fV fI fK
    have HB := Lib.hid hB
    have HL := Lib.hid hl
    have HM := Lib.hid hm
    have HTT := Lib.hid (HT.out.on hb)
    obtain ⟨z0, z1, z2, z3, z4, z5⟩ := hB.cells
    clear hB hl hm
    go_wp2_with fail
    refine (Vm.told t _ _ HL.out HTT.out).mono ?_
    rintro e W3 ⟨rfl, hb'⟩
    rw [Vt.told_no HM.out]
    have hbA := Vm.then hb hb'
    have HBA := Lib.hid (HB.out.on HB.out.lt hb')
    have HLA := Lib.hid (HL.out.on' hb')
    clear hb hb' HB HL HTT z0 z1 z2 z3 z4 z5
    obtain ⟨z0, z1, z2, z3, z4, z5⟩ := HBA.out.cells
    go_wp2_with fail
    refine (Vl.less t t _ _ _ HLA.out HLA.out).mono ?_
    rintro e W4 ⟨rfl, hb'⟩
    rw [Vt.less_no (.inl HM.out)]
    have hbB := Vm.then hbA hb'
    have HBB := Lib.hid (HBA.out.on HBA.out.lt hb')
    have HLB := Lib.hid (HLA.out.on' hb')
    clear hbA hb' HBA HLA z0 z1 z2 z3 z4 z5
    obtain ⟨z0, z1, z2, z3, z4, z5⟩ := HBB.out.cells
    go_wp2_with fail
    refine (Vg.get t _ 0 (fun _ => ⟨#[]⟩) none 0 _ HLB.out ⟨Nat.le_refl _, by decide, fun j hj => absurd hj (by omega)⟩).mono ?_
    rintro e W5 ⟨v', rfl, hown, hb'⟩
    rw [Vt.get_no HM.out] at hown ⊢
    obtain ⟨k5, x5, b5, s5, ai5, n5, d5, ak5, m5, e5, rfl⟩ := hown.form
    replace hb' := Vm.then hb' ((Below.refl _ _).alloc (Nat.le_refl _) (.cells #[.int .i64 k5, .int .i64 x5, .int .u64 (b5 : Int), .string s5, .slice ai5 n5 d5, .slice ak5 m5 e5] 26))
    have hbC := Vm.then hbB hb'
    have HBC := Lib.hid (HBB.out.on HBB.out.lt hb')
    have HLC := Lib.hid (HLB.out.on' hb')
    clear hbB hb' HBB HLB hown z0 z1 z2 z3 z4 z5
    have YC := HBC.out.cells
    go_wp2_with (refine Vm.stop 143 ?_)
    generalize W5.alloc (.cells #[.int .i64 k5, .int .i64 x5, .int .u64 (b5 : Int), .string s5, .slice ai5 n5 d5, .slice ak5 m5 e5] 26) = W6 at *
    constructor
    obtain ⟨z0, z1, z2, z3, z4, z5⟩ := YC
    go_wp2_with fail
    refine (Vm.may t _ _ HLC.out).mono ?_
    rintro e W7 ⟨rfl, hb'⟩
    rw [HM.out]
    have hbD := Vm.then hbC hb'
    have HBD := Lib.hid (HBC.out.on HBC.out.lt hb')
    have HLD := Lib.hid (HLC.out.on' hb')
    clear hbC hb' HBC HLC z0 z1 z2 z3 z4 z5
    obtain ⟨z0, z1, z2, z3, z4, z5⟩ := HBD.out.cells
    go_wp2_with fail
    refine (Vm.truth t _ _ HLD.out).mono ?_
    rintro e W8 ⟨rfl, hb'⟩
    rw [Vt.truth_no HM.out]
    have hbE := Vm.then hbD hb'
    have HBE := Lib.hid (HBD.out.on HBD.out.lt hb')
    have HLE := Lib.hid (HLD.out.on' hb')
    clear hbD hb' HBD HLD z0 z1 z2 z3 z4 z5
    obtain ⟨z0, z1, z2, z3, z4, z5⟩ := HBE.out.cells
    go_wp2_with fail
    refine (Va.same t t _ _ _ HLE.out HLE.out).mono ?_
    rintro e W9 ⟨rfl, hb'⟩
    rw [Vt.same_no (.inl HM.out)]
    have hbF := Vm.then hbE hb'
    clear hbE hb' HBE HLE z0 z1 z2 z3 z4 z5
    go_wp2_with fail
    refine (Vn.errno 400 _).mono ?_
    rintro e W9 ⟨rfl, rfl⟩
    go_wp2_with fail
    refine (Vn.errno 400 _).mono ?_
    rintro e W9 ⟨rfl, rfl⟩
    go_wp2_with fail
    refine (Vn.errno 400 _).mono ?_
    rintro e W9 ⟨rfl, rfl⟩
    go_wp2
    go_ret
    exact ⟨rfl, hbF⟩
  · skip
    go_wp2_with (refine Vm.stop 125 ?_)
    refine Vm.stillAt (Vq.Bad w gV) (⟨_, _, _, _, _, _, _, _, _, _, _, HS.out.below.setCell (by simp; omega) _, HS.out.boxV.set5 _, Vq.lies (HS.out.items.other (by omega) _ _) (HS.out.keys.other (by omega) _ _) (Vw.iLies 1 _ _) (Vt.leaf_lies 0 0 0 ⟨#[]⟩ (by decide) _ _) (6) (0) (0) (by decide) ⟨#[]⟩ 1 (by decide), Vq.no (by simp [Vt.formed])⟩) ?_
    rintro W2 ⟨t, k1, x1, b1, s1, ai1, n1, e1, ak1, m1, d1, hb, hB, hl, hm⟩
    clear c0 c1 c2 c3 c4 c5 ci0 ci1 ci2 ci3 ci4 ci5 di0 di1 di2 di3 di4 di5 ck0 ck1 fV fI fK
    have HB := Lib.hid hB
    have HL := Lib.hid hl
    have HM := Lib.hid hm
    have HTT := Lib.hid (HT.out.on hb)
    obtain ⟨z0, z1, z2, z3, z4, z5⟩ := hB.cells
    clear hB hl hm
    go_wp2_with fail
    refine (Vm.told t _ _ HL.out HTT.out).mono ?_
    rintro e W3 ⟨rfl, hb'⟩
    rw [Vt.told_no HM.out]
    have hbA := Vm.then hb hb'
    have HBA := Lib.hid (HB.out.on HB.out.lt hb')
    have HLA := Lib.hid (HL.out.on' hb')
    clear hb hb' HB HL HTT z0 z1 z2 z3 z4 z5
    obtain ⟨z0, z1, z2, z3, z4, z5⟩ := HBA.out.cells
    go_wp2_with fail
    refine (Vl.less t t _ _ _ HLA.out HLA.out).mono ?_
    rintro e W4 ⟨rfl, hb'⟩
    rw [Vt.less_no (.inl HM.out)]
    have hbB := Vm.then hbA hb'
    have HBB := Lib.hid (HBA.out.on HBA.out.lt hb')
    have HLB := Lib.hid (HLA.out.on' hb')
    clear hbA hb' HBA HLA z0 z1 z2 z3 z4 z5
    obtain ⟨z0, z1, z2, z3, z4, z5⟩ := HBB.out.cells
    go_wp2_with fail
    refine (Vg.get t _ 0 (fun _ => ⟨#[]⟩) none 0 _ HLB.out ⟨Nat.le_refl _, by decide, fun j hj => absurd hj (by omega)⟩).mono ?_
    rintro e W5 ⟨v', rfl, hown, hb'⟩
    rw [Vt.get_no HM.out] at hown ⊢
    obtain ⟨k5, x5, b5, s5, ai5, n5, d5, ak5, m5, e5, rfl⟩ := hown.form
    replace hb' := Vm.then hb' ((Below.refl _ _).alloc (Nat.le_refl _) (.cells #[.int .i64 k5, .int .i64 x5, .int .u64 (b5 : Int), .string s5, .slice ai5 n5 d5, .slice ak5 m5 e5] 26))
    have hbC := Vm.then hbB hb'
    have HBC := Lib.hid (HBB.out.on HBB.out.lt hb')
    have HLC := Lib.hid (HLB.out.on' hb')
    clear hbB hb' HBB HLB hown z0 z1 z2 z3 z4 z5
    have YC := HBC.out.cells
    go_wp2_with (refine Vm.stop 143 ?_)
    generalize W5.alloc (.cells #[.int .i64 k5, .int .i64 x5, .int .u64 (b5 : Int), .string s5, .slice ai5 n5 d5, .slice ak5 m5 e5] 26) = W6 at *
    constructor
    obtain ⟨z0, z1, z2, z3, z4, z5⟩ := YC
    go_wp2_with fail
    refine (Vm.may t _ _ HLC.out).mono ?_
    rintro e W7 ⟨rfl, hb'⟩
    rw [HM.out]
    have hbD := Vm.then hbC hb'
    have HBD := Lib.hid (HBC.out.on HBC.out.lt hb')
    have HLD := Lib.hid (HLC.out.on' hb')
    clear hbC hb' HBC HLC z0 z1 z2 z3 z4 z5
    obtain ⟨z0, z1, z2, z3, z4, z5⟩ := HBD.out.cells
    go_wp2_with fail
    refine (Vm.truth t _ _ HLD.out).mono ?_
    rintro e W8 ⟨rfl, hb'⟩
    rw [Vt.truth_no HM.out]
    have hbE := Vm.then hbD hb'
    have HBE := Lib.hid (HBD.out.on HBD.out.lt hb')
    have HLE := Lib.hid (HLD.out.on' hb')
    clear hbD hb' HBD HLD z0 z1 z2 z3 z4 z5
    obtain ⟨z0, z1, z2, z3, z4, z5⟩ := HBE.out.cells
    go_wp2_with fail
    refine (Va.same t t _ _ _ HLE.out HLE.out).mono ?_
    rintro e W9 ⟨rfl, hb'⟩
    rw [Vt.same_no (.inl HM.out)]
    have hbF := Vm.then hbE hb'
    clear hbE hb' HBE HLE z0 z1 z2 z3 z4 z5
    go_wp2_with fail
    refine (Vn.errno 400 _).mono ?_
    rintro e W9 ⟨rfl, rfl⟩
    go_wp2_with fail
    refine (Vn.errno 400 _).mono ?_
    rintro e W9 ⟨rfl, rfl⟩
    go_wp2_with fail
    refine (Vn.errno 400 _).mono ?_
    rintro e W9 ⟨rfl, rfl⟩
    go_wp2
    go_ret
    exact ⟨rfl, hbF⟩
  · skip
    go_wp2_with (refine Vm.stop 125 ?_)
    refine Vm.stillAt (Vq.Bad w gV) (⟨_, _, _, _, _, _, _, _, _, _, _, HS.out.below.setCell (by simp; omega) _, HS.out.boxV.other (by omega) _ _, Vq.lies (HS.out.items.other (by omega) _ _) (HS.out.keys.set 1 (.string ⟨#[97]⟩)) (Vw.iLies 1 _ _) (Vt.leaf_lies 0 0 0 ⟨#[]⟩ (by decide) _ _) 6 0 0 (by decide) ⟨#[]⟩ 2 (by decide) (k0 := ⟨#[97]⟩) (k1 := ⟨#[97]⟩), Vq.no (by simp [Vt.formed, Vt.keysOk, Vt.key, Vt.prev, Op.bytesLess, Vw.size])⟩) ?_
    rintro W2 ⟨t, k1, x1, b1, s1, ai1, n1, e1, ak1, m1, d1, hb, hB, hl, hm⟩
    clear c0 c1 c2 c3 c4 c5 ci0 ci1 ci2 ci3 ci4 ci5 di0 di1 di2 di3 di4 di5 ck0 ck1 fV fI fK
    have HB := Lib.hid hB
    have HL := Lib.hid hl
    have HM := Lib.hid hm
    have HTT := Lib.hid (HT.out.on hb)
    obtain ⟨z0, z1, z2, z3, z4, z5⟩ := hB.cells
    clear hB hl hm
    go_wp2_with fail
    refine (Vm.told t _ _ HL.out HTT.out).mono ?_
    rintro e W3 ⟨rfl, hb'⟩
    rw [Vt.told_no HM.out]
    have hbA := Vm.then hb hb'
    have HBA := Lib.hid (HB.out.on HB.out.lt hb')
    have HLA := Lib.hid (HL.out.on' hb')
    clear hb hb' HB HL HTT z0 z1 z2 z3 z4 z5
    obtain ⟨z0, z1, z2, z3, z4, z5⟩ := HBA.out.cells
    go_wp2_with fail
    refine (Vl.less t t _ _ _ HLA.out HLA.out).mono ?_
    rintro e W4 ⟨rfl, hb'⟩
    rw [Vt.less_no (.inl HM.out)]
    have hbB := Vm.then hbA hb'
    have HBB := Lib.hid (HBA.out.on HBA.out.lt hb')
    have HLB := Lib.hid (HLA.out.on' hb')
    clear hbA hb' HBA HLA z0 z1 z2 z3 z4 z5
    obtain ⟨z0, z1, z2, z3, z4, z5⟩ := HBB.out.cells
    go_wp2_with fail
    refine (Vg.get t _ 0 (fun _ => ⟨#[]⟩) none 0 _ HLB.out ⟨Nat.le_refl _, by decide, fun j hj => absurd hj (by omega)⟩).mono ?_
    rintro e W5 ⟨v', rfl, hown, hb'⟩
    rw [Vt.get_no HM.out] at hown ⊢
    obtain ⟨k5, x5, b5, s5, ai5, n5, d5, ak5, m5, e5, rfl⟩ := hown.form
    replace hb' := Vm.then hb' ((Below.refl _ _).alloc (Nat.le_refl _) (.cells #[.int .i64 k5, .int .i64 x5, .int .u64 (b5 : Int), .string s5, .slice ai5 n5 d5, .slice ak5 m5 e5] 26))
    have hbC := Vm.then hbB hb'
    have HBC := Lib.hid (HBB.out.on HBB.out.lt hb')
    have HLC := Lib.hid (HLB.out.on' hb')
    clear hbB hb' HBB HLB hown z0 z1 z2 z3 z4 z5
    have YC := HBC.out.cells
    go_wp2_with (refine Vm.stop 143 ?_)
    generalize W5.alloc (.cells #[.int .i64 k5, .int .i64 x5, .int .u64 (b5 : Int), .string s5, .slice ai5 n5 d5, .slice ak5 m5 e5] 26) = W6 at *
    constructor
    obtain ⟨z0, z1, z2, z3, z4, z5⟩ := YC
    go_wp2_with fail
    refine (Vm.may t _ _ HLC.out).mono ?_
    rintro e W7 ⟨rfl, hb'⟩
    rw [HM.out]
    have hbD := Vm.then hbC hb'
    have HBD := Lib.hid (HBC.out.on HBC.out.lt hb')
    have HLD := Lib.hid (HLC.out.on' hb')
    clear hbC hb' HBC HLC z0 z1 z2 z3 z4 z5
    obtain ⟨z0, z1, z2, z3, z4, z5⟩ := HBD.out.cells
    go_wp2_with fail
    refine (Vm.truth t _ _ HLD.out).mono ?_
    rintro e W8 ⟨rfl, hb'⟩
    rw [Vt.truth_no HM.out]
    have hbE := Vm.then hbD hb'
    have HBE := Lib.hid (HBD.out.on HBD.out.lt hb')
    have HLE := Lib.hid (HLD.out.on' hb')
    clear hbD hb' HBD HLD z0 z1 z2 z3 z4 z5
    obtain ⟨z0, z1, z2, z3, z4, z5⟩ := HBE.out.cells
    go_wp2_with fail
    refine (Va.same t t _ _ _ HLE.out HLE.out).mono ?_
    rintro e W9 ⟨rfl, hb'⟩
    rw [Vt.same_no (.inl HM.out)]
    have hbF := Vm.then hbE hb'
    clear hbE hb' HBE HLE z0 z1 z2 z3 z4 z5
    go_wp2_with fail
    refine (Vn.errno 400 _).mono ?_
    rintro e W9 ⟨rfl, rfl⟩
    go_wp2_with fail
    refine (Vn.errno 400 _).mono ?_
    rintro e W9 ⟨rfl, rfl⟩
    go_wp2_with fail
    refine (Vn.errno 400 _).mono ?_
    rintro e W9 ⟨rfl, rfl⟩
    go_wp2
    go_ret
    exact ⟨rfl, hbF⟩
  · skip
    go_wp2_with (refine Vm.stop 125 ?_)
    refine Vm.stillAt (Vq.Bad w gV) (⟨_, _, _, _, _, _, _, _, _, _, _, HS.out.below.setCell (by simp; omega) _, HS.out.boxV.other (by omega) _ _, Vq.lies (HS.out.items.other (by omega) _ _) (HS.out.keys.set 0 (.string ⟨#[]⟩)) (Vw.iLies 1 _ _) (Vt.leaf_lies 0 0 0 ⟨#[]⟩ (by decide) _ _) 6 0 0 (by decide) ⟨#[]⟩ 2 (by decide) (k0 := ⟨#[]⟩) (k1 := ⟨#[98]⟩), Vq.no (by simp [Vt.formed, Vt.keysOk, Vt.key, Vt.prev, Op.bytesLess, Vw.size])⟩) ?_
    rintro W2 ⟨t, k1, x1, b1, s1, ai1, n1, e1, ak1, m1, d1, hb, hB, hl, hm⟩
    clear c0 c1 c2 c3 c4 c5 ci0 ci1 ci2 ci3 ci4 ci5 di0 di1 di2 di3 di4 di5 ck0 ck1 fV fI fK
    have HB := Lib.hid hB
    have HL := Lib.hid hl
    have HM := Lib.hid hm
    have HTT := Lib.hid (HT.out.on hb)
    obtain ⟨z0, z1, z2, z3, z4, z5⟩ := hB.cells
    clear hB hl hm
    go_wp2_with fail
    refine (Vm.told t _ _ HL.out HTT.out).mono ?_
    rintro e W3 ⟨rfl, hb'⟩
    rw [Vt.told_no HM.out]
    have hbA := Vm.then hb hb'
    have HBA := Lib.hid (HB.out.on HB.out.lt hb')
    have HLA := Lib.hid (HL.out.on' hb')
    clear hb hb' HB HL HTT z0 z1 z2 z3 z4 z5
    obtain ⟨z0, z1, z2, z3, z4, z5⟩ := HBA.out.cells
    go_wp2_with fail
    refine (Vl.less t t _ _ _ HLA.out HLA.out).mono ?_
    rintro e W4 ⟨rfl, hb'⟩
    rw [Vt.less_no (.inl HM.out)]
    have hbB := Vm.then hbA hb'
    have HBB := Lib.hid (HBA.out.on HBA.out.lt hb')
    have HLB := Lib.hid (HLA.out.on' hb')
    clear hbA hb' HBA HLA z0 z1 z2 z3 z4 z5
    obtain ⟨z0, z1, z2, z3, z4, z5⟩ := HBB.out.cells
    go_wp2_with fail
    refine (Vg.get t _ 0 (fun _ => ⟨#[]⟩) none 0 _ HLB.out ⟨Nat.le_refl _, by decide, fun j hj => absurd hj (by omega)⟩).mono ?_
    rintro e W5 ⟨v', rfl, hown, hb'⟩
    rw [Vt.get_no HM.out] at hown ⊢
    obtain ⟨k5, x5, b5, s5, ai5, n5, d5, ak5, m5, e5, rfl⟩ := hown.form
    replace hb' := Vm.then hb' ((Below.refl _ _).alloc (Nat.le_refl _) (.cells #[.int .i64 k5, .int .i64 x5, .int .u64 (b5 : Int), .string s5, .slice ai5 n5 d5, .slice ak5 m5 e5] 26))
    have hbC := Vm.then hbB hb'
    have HBC := Lib.hid (HBB.out.on HBB.out.lt hb')
    have HLC := Lib.hid (HLB.out.on' hb')
    clear hbB hb' HBB HLB hown z0 z1 z2 z3 z4 z5
    have YC := HBC.out.cells
    go_wp2_with (refine Vm.stop 143 ?_)
    generalize W5.alloc (.cells #[.int .i64 k5, .int .i64 x5, .int .u64 (b5 : Int), .string s5, .slice ai5 n5 d5, .slice ak5 m5 e5] 26) = W6 at *
    constructor
    obtain ⟨z0, z1, z2, z3, z4, z5⟩ := YC
    go_wp2_with fail
    refine (Vm.may t _ _ HLC.out).mono ?_
    rintro e W7 ⟨rfl, hb'⟩
    rw [HM.out]
    have hbD := Vm.then hbC hb'
    have HBD := Lib.hid (HBC.out.on HBC.out.lt hb')
    have HLD := Lib.hid (HLC.out.on' hb')
    clear hbC hb' HBC HLC z0 z1 z2 z3 z4 z5
    obtain ⟨z0, z1, z2, z3, z4, z5⟩ := HBD.out.cells
    go_wp2_with fail
    refine (Vm.truth t _ _ HLD.out).mono ?_
    rintro e W8 ⟨rfl, hb'⟩
    rw [Vt.truth_no HM.out]
    have hbE := Vm.then hbD hb'
    have HBE := Lib.hid (HBD.out.on HBD.out.lt hb')
    have HLE := Lib.hid (HLD.out.on' hb')
    clear hbD hb' HBD HLD z0 z1 z2 z3 z4 z5
    obtain ⟨z0, z1, z2, z3, z4, z5⟩ := HBE.out.cells
    go_wp2_with fail
    refine (Va.same t t _ _ _ HLE.out HLE.out).mono ?_
    rintro e W9 ⟨rfl, hb'⟩
    rw [Vt.same_no (.inl HM.out)]
    have hbF := Vm.then hbE hb'
    clear hbE hb' HBE HLE z0 z1 z2 z3 z4 z5
    go_wp2_with fail
    refine (Vn.errno 400 _).mono ?_
    rintro e W9 ⟨rfl, rfl⟩
    go_wp2_with fail
    refine (Vn.errno 400 _).mono ?_
    rintro e W9 ⟨rfl, rfl⟩
    go_wp2_with fail
    refine (Vn.errno 400 _).mono ?_
    rintro e W9 ⟨rfl, rfl⟩
    go_wp2
    go_ret
    exact ⟨rfl, hbF⟩
  · skip
    obtain ⟨cur, hcur, hmk⟩ := Vq.make (33 + c) (by omega)
    obtain ⟨S, hS, hcv⟩ := Vq.text (33 + c) cur hcur
    have hmk' := hmk W.drew
    have hcv' := hcv (W.alloc (.cells cur 5)).drew W.heap.size (Vm.Has.new W _ _ rfl)
    rw [show ((33 + c : Nat) : Int) = 32 + (1 + (c : Int)) by omega] at hmk'
    simp only [World.size_drew] at hmk'
    clear hmk hcv hcur
    have n3 : gK ≠ W.heap.size := by omega
    have ckA := (HS.out.keys.alloc (.cells cur 5)).cell 1 rfl
    have fKA := (HS.out.keys.alloc (.cells cur 5)).frozen 1
    go_wp2_with fail
    go_region
    go_wp2_with (refine Vm.stop 125 ?_)
    have A := HS.out.alloc (.cells cur 5)
    refine Vm.stillAt (Vq.Bad w gV) ⟨_, _, _, _, _, _, _, _, _, _, _, (A.below.setCell (p := ⟨gK, 1, none⟩) (by simp; omega) (.string S)).drew, (A.boxV.other (by omega) 1 (.string S)).drew, Vq.lies (A.items.other (by omega) 1 (.string S)).drew (A.keys.set 1 (.string S)).drew (Vw.iLies 1 _ _) (Vt.leaf_lies 0 0 0 ⟨#[]⟩ (by decide) _ _) 6 0 0 (by decide) ⟨#[]⟩ 2 (by decide) (k0 := ⟨#[97]⟩) (k1 := S), Vq.no (by simp [Vt.formed, Vt.keysOk, Vt.key, hS]; omega)⟩ ?_
    clear A ckA fKA hmk' hcv' n3
    rintro W2 ⟨t, k1, x1, b1, s1, ai1, n1, e1, ak1, m1, d1, hb, hB, hl, hm⟩
    clear c0 c1 c2 c3 c4 c5 ci0 ci1 ci2 ci3 ci4 ci5 di0 di1 di2 di3 di4 di5 ck0 ck1 fV fI fK
    have HB := Lib.hid hB
    have HL := Lib.hid hl
    have HM := Lib.hid hm
    have HTT := Lib.hid (HT.out.on hb)
    obtain ⟨z0, z1, z2, z3, z4, z5⟩ := hB.cells
    clear hB hl hm
    go_wp2_with fail
    refine (Vm.told t _ _ HL.out HTT.out).mono ?_
    rintro e W3 ⟨rfl, hb'⟩
    rw [Vt.told_no HM.out]
    have hbA := Vm.then hb hb'
    have HBA := Lib.hid (HB.out.on HB.out.lt hb')
    have HLA := Lib.hid (HL.out.on' hb')
    clear hb hb' HB HL HTT z0 z1 z2 z3 z4 z5
    obtain ⟨z0, z1, z2, z3, z4, z5⟩ := HBA.out.cells
    go_wp2_with fail
    refine (Vl.less t t _ _ _ HLA.out HLA.out).mono ?_
    rintro e W4 ⟨rfl, hb'⟩
    rw [Vt.less_no (.inl HM.out)]
    have hbB := Vm.then hbA hb'
    have HBB := Lib.hid (HBA.out.on HBA.out.lt hb')
    have HLB := Lib.hid (HLA.out.on' hb')
    clear hbA hb' HBA HLA z0 z1 z2 z3 z4 z5
    obtain ⟨z0, z1, z2, z3, z4, z5⟩ := HBB.out.cells
    go_wp2_with fail
    refine (Vg.get t _ 0 (fun _ => ⟨#[]⟩) none 0 _ HLB.out ⟨Nat.le_refl _, by decide, fun j hj => absurd hj (by omega)⟩).mono ?_
    rintro e W5 ⟨v', rfl, hown, hb'⟩
    rw [Vt.get_no HM.out] at hown ⊢
    obtain ⟨k5, x5, b5, s5, ai5, n5, d5, ak5, m5, e5, rfl⟩ := hown.form
    replace hb' := Vm.then hb' ((Below.refl _ _).alloc (Nat.le_refl _) (.cells #[.int .i64 k5, .int .i64 x5, .int .u64 (b5 : Int), .string s5, .slice ai5 n5 d5, .slice ak5 m5 e5] 26))
    have hbC := Vm.then hbB hb'
    have HBC := Lib.hid (HBB.out.on HBB.out.lt hb')
    have HLC := Lib.hid (HLB.out.on' hb')
    clear hbB hb' HBB HLB hown z0 z1 z2 z3 z4 z5
    have YC := HBC.out.cells
    go_wp2_with (refine Vm.stop 143 ?_)
    generalize W5.alloc (.cells #[.int .i64 k5, .int .i64 x5, .int .u64 (b5 : Int), .string s5, .slice ai5 n5 d5, .slice ak5 m5 e5] 26) = W6 at *
    constructor
    obtain ⟨z0, z1, z2, z3, z4, z5⟩ := YC
    go_wp2_with fail
    refine (Vm.may t _ _ HLC.out).mono ?_
    rintro e W7 ⟨rfl, hb'⟩
    rw [HM.out]
    have hbD := Vm.then hbC hb'
    have HBD := Lib.hid (HBC.out.on HBC.out.lt hb')
    have HLD := Lib.hid (HLC.out.on' hb')
    clear hbC hb' HBC HLC z0 z1 z2 z3 z4 z5
    obtain ⟨z0, z1, z2, z3, z4, z5⟩ := HBD.out.cells
    go_wp2_with fail
    refine (Vm.truth t _ _ HLD.out).mono ?_
    rintro e W8 ⟨rfl, hb'⟩
    rw [Vt.truth_no HM.out]
    have hbE := Vm.then hbD hb'
    have HBE := Lib.hid (HBD.out.on HBD.out.lt hb')
    have HLE := Lib.hid (HLD.out.on' hb')
    clear hbD hb' HBD HLD z0 z1 z2 z3 z4 z5
    obtain ⟨z0, z1, z2, z3, z4, z5⟩ := HBE.out.cells
    go_wp2_with fail
    refine (Va.same t t _ _ _ HLE.out HLE.out).mono ?_
    rintro e W9 ⟨rfl, hb'⟩
    rw [Vt.same_no (.inl HM.out)]
    have hbF := Vm.then hbE hb'
    clear hbE hb' HBE HLE z0 z1 z2 z3 z4 z5
    go_wp2_with fail
    refine (Vn.errno 400 _).mono ?_
    rintro e W9 ⟨rfl, rfl⟩
    go_wp2_with fail
    refine (Vn.errno 400 _).mono ?_
    rintro e W9 ⟨rfl, rfl⟩
    go_wp2_with fail
    refine (Vn.errno 400 _).mono ?_
    rintro e W9 ⟨rfl, rfl⟩
    go_wp2
    go_ret
    exact ⟨rfl, hbF⟩
  · skip
    obtain ⟨D, hD, hDr⟩ : ∃ D : Int, 9007199254740991 + (1 + (c : Int)) = D ∧ (9007199254740992 ≤ D ∧ D ≤ 9007199254741100) := ⟨_, rfl, by omega⟩
    have hDw : IntKind.i64.wrap D = D := by rw [IntKind.wrap_i64]; omega
    have HDr := Lib.hid hDr
    clear hDr di0 di1 di2 di3 di4 di5 ck0 ck1 fK
    go_wp2_with fail
    go_region_with (go_at_call 30; refine (Vn.num D _).mono ?_; rintro e w3 ⟨rfl, hb'⟩; have S3 := HS.out.on (Vs.back hb'); have y4 := S3.boxV.cells.2.2.2.2.1; have yi0 := S3.items.cell 0 rfl; have yi1 := S3.items.cell 1 rfl; have yi2 := S3.items.cell 2 rfl; have yi3 := S3.items.cell 3 rfl; have yi4 := S3.items.cell 4 rfl; have yi5 := S3.items.cell 5 rfl; have gIf := fun i => S3.items.frozen i; have HS3 := Lib.hid S3; clear S3 hb')
    all_goals go_wp2_with (refine Vm.stop 125 ?_)
    all_goals refine Vm.stillAt (Vq.Bad w gV) (have WR := Vm.set6 w3 gI 0 (.int .i64 2) (.int .i64 D) (.int .u64 0) (.string ⟨#[]⟩) (.slice none 0 0) (.slice none 0 0); have IR := Vm.set6_row HS3.out.items 0 (.int .i64 2) (.int .i64 D) (.int .u64 0) (.string ⟨#[]⟩) (.slice none 0 0) (.slice none 0 0); ⟨_, _, _, _, _, _, _, _, _, _, _, WR.below HS3.out.below (by omega), HS3.out.boxV.wrote WR (by omega), Vq.lies IR (HS3.out.keys.wrote WR (by omega)) (Vt.leaf_lies 2 D 0 ⟨#[]⟩ (by decide) _ _) (Vt.leaf_lies 0 0 0 ⟨#[]⟩ (by decide) _ _) 6 0 0 (by decide) ⟨#[]⟩ 2 (by decide), Vq.no0 (Vq.leaf_no (by have := HDr.out; simp [Vt.formed]; omega))⟩) ?_
    all_goals rintro W2 ⟨t, k1, x1, b1, s1, ai1, n1, e1, ak1, m1, d1, hb, hB, hl, hm⟩
    all_goals clear c0 c1 c2 c3 c4 c5 ci0 ci1 ci2 ci3 ci4 ci5 fV fI y4 yi0 yi1 yi2 yi3 yi4 yi5 gIf
    all_goals have HB := Lib.hid hB
    all_goals have HL := Lib.hid hl
    all_goals have HM := Lib.hid hm
    all_goals have HTT := Lib.hid (HT.out.on hb)
    all_goals obtain ⟨z0, z1, z2, z3, z4, z5⟩ := hB.cells
    all_goals clear hB hl hm
    all_goals go_wp2_with fail
    all_goals refine (Vm.told t _ _ HL.out HTT.out).mono ?_
    all_goals rintro e W3 ⟨rfl, hb'⟩
    all_goals rw [Vt.told_no HM.out]
    all_goals have hbA := Vm.then hb hb'
    all_goals have HBA := Lib.hid (HB.out.on HB.out.lt hb')
    all_goals have HLA := Lib.hid (HL.out.on' hb')
    all_goals clear hb hb' HB HL HTT z0 z1 z2 z3 z4 z5
    all_goals obtain ⟨z0, z1, z2, z3, z4, z5⟩ := HBA.out.cells
    all_goals go_wp2_with fail
    all_goals refine (Vl.less t t _ _ _ HLA.out HLA.out).mono ?_
    all_goals rintro e W4 ⟨rfl, hb'⟩
    all_goals rw [Vt.less_no (.inl HM.out)]
    all_goals have hbB := Vm.then hbA hb'
    all_goals have HBB := Lib.hid (HBA.out.on HBA.out.lt hb')
    all_goals have HLB := Lib.hid (HLA.out.on' hb')
    all_goals clear hbA hb' HBA HLA z0 z1 z2 z3 z4 z5
    all_goals obtain ⟨z0, z1, z2, z3, z4, z5⟩ := HBB.out.cells
    all_goals go_wp2_with fail
    all_goals refine (Vg.get t _ 0 (fun _ => ⟨#[]⟩) none 0 _ HLB.out ⟨Nat.le_refl _, by decide, fun j hj => absurd hj (by omega)⟩).mono ?_
    all_goals rintro e W5 ⟨v', rfl, hown, hb'⟩
    all_goals rw [Vt.get_no HM.out] at hown ⊢
    all_goals obtain ⟨k5, x5, b5, s5, ai5, n5, d5, ak5, m5, e5, rfl⟩ := hown.form
    all_goals replace hb' := Vm.then hb' ((Below.refl _ _).alloc (Nat.le_refl _) (.cells #[.int .i64 k5, .int .i64 x5, .int .u64 (b5 : Int), .string s5, .slice ai5 n5 d5, .slice ak5 m5 e5] 26))
    all_goals have hbC := Vm.then hbB hb'
    all_goals have HBC := Lib.hid (HBB.out.on HBB.out.lt hb')
    all_goals have HLC := Lib.hid (HLB.out.on' hb')
    all_goals clear hbB hb' HBB HLB hown z0 z1 z2 z3 z4 z5
    all_goals have YC := HBC.out.cells
    all_goals go_wp2_with (refine Vm.stop 143 ?_)
    all_goals generalize W5.alloc (.cells #[.int .i64 k5, .int .i64 x5, .int .u64 (b5 : Int), .string s5, .slice ai5 n5 d5, .slice ak5 m5 e5] 26) = W6 at *
    all_goals constructor
    all_goals obtain ⟨z0, z1, z2, z3, z4, z5⟩ := YC
    all_goals go_wp2_with fail
    all_goals refine (Vm.may t _ _ HLC.out).mono ?_
    all_goals rintro e W7 ⟨rfl, hb'⟩
    all_goals rw [HM.out]
    all_goals have hbD := Vm.then hbC hb'
    all_goals have HBD := Lib.hid (HBC.out.on HBC.out.lt hb')
    all_goals have HLD := Lib.hid (HLC.out.on' hb')
    all_goals clear hbC hb' HBC HLC z0 z1 z2 z3 z4 z5
    all_goals obtain ⟨z0, z1, z2, z3, z4, z5⟩ := HBD.out.cells
    all_goals go_wp2_with fail
    all_goals refine (Vm.truth t _ _ HLD.out).mono ?_
    all_goals rintro e W8 ⟨rfl, hb'⟩
    all_goals rw [Vt.truth_no HM.out]
    all_goals have hbE := Vm.then hbD hb'
    all_goals have HBE := Lib.hid (HBD.out.on HBD.out.lt hb')
    all_goals have HLE := Lib.hid (HLD.out.on' hb')
    all_goals clear hbD hb' HBD HLD z0 z1 z2 z3 z4 z5
    all_goals obtain ⟨z0, z1, z2, z3, z4, z5⟩ := HBE.out.cells
    all_goals go_wp2_with fail
    all_goals refine (Va.same t t _ _ _ HLE.out HLE.out).mono ?_
    all_goals rintro e W9 ⟨rfl, hb'⟩
    all_goals rw [Vt.same_no (.inl HM.out)]
    all_goals have hbF := Vm.then hbE hb'
    all_goals clear hbE hb' HBE HLE z0 z1 z2 z3 z4 z5
    all_goals go_wp2_with fail
    all_goals refine (Vn.errno 400 _).mono ?_
    all_goals rintro e W9 ⟨rfl, rfl⟩
    all_goals go_wp2_with fail
    all_goals refine (Vn.errno 400 _).mono ?_
    all_goals rintro e W9 ⟨rfl, rfl⟩
    all_goals go_wp2_with fail
    all_goals refine (Vn.errno 400 _).mono ?_
    all_goals rintro e W9 ⟨rfl, rfl⟩
    all_goals go_wp2
    all_goals go_ret
    all_goals exact ⟨rfl, hbF⟩
  · skip
    go_wp2_with (refine Vm.stop 125 ?_)
    refine Vm.stillAt (Vq.Bad w gV) (have WR := Vm.set6 W gI 0 (.int .i64 1) (.int .i64 (1 + (1 + (c : Int)))) (.int .u64 0) (.string ⟨#[]⟩) (.slice none 0 0) (.slice none 0 0); have IR := Vm.set6_row HS.out.items 0 (.int .i64 1) (.int .i64 (1 + (1 + (c : Int)))) (.int .u64 0) (.string ⟨#[]⟩) (.slice none 0 0) (.slice none 0 0); ⟨_, _, _, _, _, _, _, _, _, _, _, WR.below HS.out.below (by omega), HS.out.boxV.wrote WR (by omega), Vq.lies IR (HS.out.keys.wrote WR (by omega)) (Vt.leaf_lies 1 (1 + (1 + (c : Int))) 0 ⟨#[]⟩ (by decide) _ _) (Vt.leaf_lies 0 0 0 ⟨#[]⟩ (by decide) _ _) 6 0 0 (by decide) ⟨#[]⟩ 2 (by decide), Vq.no0 (Vq.leaf_no (by simp [Vt.formed]; omega))⟩) ?_
    rintro W2 ⟨t, k1, x1, b1, s1, ai1, n1, e1, ak1, m1, d1, hb, hB, hl, hm⟩
    clear c0 c1 c2 c3 c4 c5 ci0 ci1 ci2 ci3 ci4 ci5 di0 di1 di2 di3 di4 di5 ck0 ck1 fV fI fK
    have HB := Lib.hid hB
    have HL := Lib.hid hl
    have HM := Lib.hid hm
    have HTT := Lib.hid (HT.out.on hb)
    obtain ⟨z0, z1, z2, z3, z4, z5⟩ := hB.cells
    clear hB hl hm
    go_wp2_with fail
    refine (Vm.told t _ _ HL.out HTT.out).mono ?_
    rintro e W3 ⟨rfl, hb'⟩
    rw [Vt.told_no HM.out]
    have hbA := Vm.then hb hb'
    have HBA := Lib.hid (HB.out.on HB.out.lt hb')
    have HLA := Lib.hid (HL.out.on' hb')
    clear hb hb' HB HL HTT z0 z1 z2 z3 z4 z5
    obtain ⟨z0, z1, z2, z3, z4, z5⟩ := HBA.out.cells
    go_wp2_with fail
    refine (Vl.less t t _ _ _ HLA.out HLA.out).mono ?_
    rintro e W4 ⟨rfl, hb'⟩
    rw [Vt.less_no (.inl HM.out)]
    have hbB := Vm.then hbA hb'
    have HBB := Lib.hid (HBA.out.on HBA.out.lt hb')
    have HLB := Lib.hid (HLA.out.on' hb')
    clear hbA hb' HBA HLA z0 z1 z2 z3 z4 z5
    obtain ⟨z0, z1, z2, z3, z4, z5⟩ := HBB.out.cells
    go_wp2_with fail
    refine (Vg.get t _ 0 (fun _ => ⟨#[]⟩) none 0 _ HLB.out ⟨Nat.le_refl _, by decide, fun j hj => absurd hj (by omega)⟩).mono ?_
    rintro e W5 ⟨v', rfl, hown, hb'⟩
    rw [Vt.get_no HM.out] at hown ⊢
    obtain ⟨k5, x5, b5, s5, ai5, n5, d5, ak5, m5, e5, rfl⟩ := hown.form
    replace hb' := Vm.then hb' ((Below.refl _ _).alloc (Nat.le_refl _) (.cells #[.int .i64 k5, .int .i64 x5, .int .u64 (b5 : Int), .string s5, .slice ai5 n5 d5, .slice ak5 m5 e5] 26))
    have hbC := Vm.then hbB hb'
    have HBC := Lib.hid (HBB.out.on HBB.out.lt hb')
    have HLC := Lib.hid (HLB.out.on' hb')
    clear hbB hb' HBB HLB hown z0 z1 z2 z3 z4 z5
    have YC := HBC.out.cells
    go_wp2_with (refine Vm.stop 143 ?_)
    generalize W5.alloc (.cells #[.int .i64 k5, .int .i64 x5, .int .u64 (b5 : Int), .string s5, .slice ai5 n5 d5, .slice ak5 m5 e5] 26) = W6 at *
    constructor
    obtain ⟨z0, z1, z2, z3, z4, z5⟩ := YC
    go_wp2_with fail
    refine (Vm.may t _ _ HLC.out).mono ?_
    rintro e W7 ⟨rfl, hb'⟩
    rw [HM.out]
    have hbD := Vm.then hbC hb'
    have HBD := Lib.hid (HBC.out.on HBC.out.lt hb')
    have HLD := Lib.hid (HLC.out.on' hb')
    clear hbC hb' HBC HLC z0 z1 z2 z3 z4 z5
    obtain ⟨z0, z1, z2, z3, z4, z5⟩ := HBD.out.cells
    go_wp2_with fail
    refine (Vm.truth t _ _ HLD.out).mono ?_
    rintro e W8 ⟨rfl, hb'⟩
    rw [Vt.truth_no HM.out]
    have hbE := Vm.then hbD hb'
    have HBE := Lib.hid (HBD.out.on HBD.out.lt hb')
    have HLE := Lib.hid (HLD.out.on' hb')
    clear hbD hb' HBD HLD z0 z1 z2 z3 z4 z5
    obtain ⟨z0, z1, z2, z3, z4, z5⟩ := HBE.out.cells
    go_wp2_with fail
    refine (Va.same t t _ _ _ HLE.out HLE.out).mono ?_
    rintro e W9 ⟨rfl, hb'⟩
    rw [Vt.same_no (.inl HM.out)]
    have hbF := Vm.then hbE hb'
    clear hbE hb' HBE HLE z0 z1 z2 z3 z4 z5
    go_wp2_with fail
    refine (Vn.errno 400 _).mono ?_
    rintro e W9 ⟨rfl, rfl⟩
    go_wp2_with fail
    refine (Vn.errno 400 _).mono ?_
    rintro e W9 ⟨rfl, rfl⟩
    go_wp2_with fail
    refine (Vn.errno 400 _).mono ?_
    rintro e W9 ⟨rfl, rfl⟩
    go_wp2
    go_ret
    exact ⟨rfl, hbF⟩
  · skip
    go_wp2_with (refine Vm.stop 125 ?_)
    refine Vm.stillAt (Vq.Bad w gV) (⟨_, _, _, _, _, _, _, _, _, _, _, HS.out.below.setCell (by simp; omega) _, HS.out.boxV.set1 _, Vq.lies (HS.out.items.other (by omega) _ _) (HS.out.keys.other (by omega) _ _) (Vw.iLies 1 _ _) (Vt.leaf_lies 0 0 0 ⟨#[]⟩ (by decide) _ _) (6) (1 + (c : Int)) (0) (by decide) ⟨#[]⟩ 2 (by decide), Vq.no (by simp [Vt.formed]; omega)⟩) ?_
    rintro W2 ⟨t, k1, x1, b1, s1, ai1, n1, e1, ak1, m1, d1, hb, hB, hl, hm⟩
    clear c0 c1 c2 c3 c4 c5 ci0 ci1 ci2 ci3 ci4 ci5 di0 di1 di2 di3 di4 di5 ck0 ck1 fV fI fK
    have HB := Lib.hid hB
    have HL := Lib.hid hl
    have HM := Lib.hid hm
    have HTT := Lib.hid (HT.out.on hb)
    obtain ⟨z0, z1, z2, z3, z4, z5⟩ := hB.cells
    clear hB hl hm
    go_wp2_with fail
    refine (Vm.told t _ _ HL.out HTT.out).mono ?_
    rintro e W3 ⟨rfl, hb'⟩
    rw [Vt.told_no HM.out]
    have hbA := Vm.then hb hb'
    have HBA := Lib.hid (HB.out.on HB.out.lt hb')
    have HLA := Lib.hid (HL.out.on' hb')
    clear hb hb' HB HL HTT z0 z1 z2 z3 z4 z5
    obtain ⟨z0, z1, z2, z3, z4, z5⟩ := HBA.out.cells
    go_wp2_with fail
    refine (Vl.less t t _ _ _ HLA.out HLA.out).mono ?_
    rintro e W4 ⟨rfl, hb'⟩
    rw [Vt.less_no (.inl HM.out)]
    have hbB := Vm.then hbA hb'
    have HBB := Lib.hid (HBA.out.on HBA.out.lt hb')
    have HLB := Lib.hid (HLA.out.on' hb')
    clear hbA hb' HBA HLA z0 z1 z2 z3 z4 z5
    obtain ⟨z0, z1, z2, z3, z4, z5⟩ := HBB.out.cells
    go_wp2_with fail
    refine (Vg.get t _ 0 (fun _ => ⟨#[]⟩) none 0 _ HLB.out ⟨Nat.le_refl _, by decide, fun j hj => absurd hj (by omega)⟩).mono ?_
    rintro e W5 ⟨v', rfl, hown, hb'⟩
    rw [Vt.get_no HM.out] at hown ⊢
    obtain ⟨k5, x5, b5, s5, ai5, n5, d5, ak5, m5, e5, rfl⟩ := hown.form
    replace hb' := Vm.then hb' ((Below.refl _ _).alloc (Nat.le_refl _) (.cells #[.int .i64 k5, .int .i64 x5, .int .u64 (b5 : Int), .string s5, .slice ai5 n5 d5, .slice ak5 m5 e5] 26))
    have hbC := Vm.then hbB hb'
    have HBC := Lib.hid (HBB.out.on HBB.out.lt hb')
    have HLC := Lib.hid (HLB.out.on' hb')
    clear hbB hb' HBB HLB hown z0 z1 z2 z3 z4 z5
    have YC := HBC.out.cells
    go_wp2_with (refine Vm.stop 143 ?_)
    generalize W5.alloc (.cells #[.int .i64 k5, .int .i64 x5, .int .u64 (b5 : Int), .string s5, .slice ai5 n5 d5, .slice ak5 m5 e5] 26) = W6 at *
    constructor
    obtain ⟨z0, z1, z2, z3, z4, z5⟩ := YC
    go_wp2_with fail
    refine (Vm.may t _ _ HLC.out).mono ?_
    rintro e W7 ⟨rfl, hb'⟩
    rw [HM.out]
    have hbD := Vm.then hbC hb'
    have HBD := Lib.hid (HBC.out.on HBC.out.lt hb')
    have HLD := Lib.hid (HLC.out.on' hb')
    clear hbC hb' HBC HLC z0 z1 z2 z3 z4 z5
    obtain ⟨z0, z1, z2, z3, z4, z5⟩ := HBD.out.cells
    go_wp2_with fail
    refine (Vm.truth t _ _ HLD.out).mono ?_
    rintro e W8 ⟨rfl, hb'⟩
    rw [Vt.truth_no HM.out]
    have hbE := Vm.then hbD hb'
    have HBE := Lib.hid (HBD.out.on HBD.out.lt hb')
    have HLE := Lib.hid (HLD.out.on' hb')
    clear hbD hb' HBD HLD z0 z1 z2 z3 z4 z5
    obtain ⟨z0, z1, z2, z3, z4, z5⟩ := HBE.out.cells
    go_wp2_with fail
    refine (Va.same t t _ _ _ HLE.out HLE.out).mono ?_
    rintro e W9 ⟨rfl, hb'⟩
    rw [Vt.same_no (.inl HM.out)]
    have hbF := Vm.then hbE hb'
    clear hbE hb' HBE HLE z0 z1 z2 z3 z4 z5
    go_wp2_with fail
    refine (Vn.errno 400 _).mono ?_
    rintro e W9 ⟨rfl, rfl⟩
    go_wp2_with fail
    refine (Vn.errno 400 _).mono ?_
    rintro e W9 ⟨rfl, rfl⟩
    go_wp2_with fail
    refine (Vn.errno 400 _).mono ?_
    rintro e W9 ⟨rfl, rfl⟩
    go_wp2
    go_ret
    exact ⟨rfl, hbF⟩
  · skip
    go_wp2_with (refine Vm.stop 125 ?_)
    refine Vm.stillAt (Vq.Bad w gV) (⟨_, _, _, _, _, _, _, _, _, _, _, HS.out.below.setCell (by simp; omega) _, HS.out.boxV.set2 _, Vq.lies (HS.out.items.other (by omega) _ _) (HS.out.keys.other (by omega) _ _) (Vw.iLies 1 _ _) (Vt.leaf_lies 0 0 0 ⟨#[]⟩ (by decide) _ _) (6) (0) (1) (by decide) ⟨#[]⟩ 2 (by decide), Vq.no (by simp [Vt.formed])⟩) ?_
    rintro W2 ⟨t, k1, x1, b1, s1, ai1, n1, e1, ak1, m1, d1, hb, hB, hl, hm⟩
    clear c0 c1 c2 c3 c4 c5 ci0 ci1 ci2 ci3 ci4 ci5 di0 di1 di2 di3 di4 di5 ck0 ck1 fV fI fK
    have HB := Lib.hid hB
    have HL := Lib.hid hl
    have HM := Lib.hid hm
    have HTT := Lib.hid (HT.out.on hb)
    obtain ⟨z0, z1, z2, z3, z4, z5⟩ := hB.cells
    clear hB hl hm
    go_wp2_with fail
    refine (Vm.told t _ _ HL.out HTT.out).mono ?_
    rintro e W3 ⟨rfl, hb'⟩
    rw [Vt.told_no HM.out]
    have hbA := Vm.then hb hb'
    have HBA := Lib.hid (HB.out.on HB.out.lt hb')
    have HLA := Lib.hid (HL.out.on' hb')
    clear hb hb' HB HL HTT z0 z1 z2 z3 z4 z5
    obtain ⟨z0, z1, z2, z3, z4, z5⟩ := HBA.out.cells
    go_wp2_with fail
    refine (Vl.less t t _ _ _ HLA.out HLA.out).mono ?_
    rintro e W4 ⟨rfl, hb'⟩
    rw [Vt.less_no (.inl HM.out)]
    have hbB := Vm.then hbA hb'
    have HBB := Lib.hid (HBA.out.on HBA.out.lt hb')
    have HLB := Lib.hid (HLA.out.on' hb')
    clear hbA hb' HBA HLA z0 z1 z2 z3 z4 z5
    obtain ⟨z0, z1, z2, z3, z4, z5⟩ := HBB.out.cells
    go_wp2_with fail
    refine (Vg.get t _ 0 (fun _ => ⟨#[]⟩) none 0 _ HLB.out ⟨Nat.le_refl _, by decide, fun j hj => absurd hj (by omega)⟩).mono ?_
    rintro e W5 ⟨v', rfl, hown, hb'⟩
    rw [Vt.get_no HM.out] at hown ⊢
    obtain ⟨k5, x5, b5, s5, ai5, n5, d5, ak5, m5, e5, rfl⟩ := hown.form
    replace hb' := Vm.then hb' ((Below.refl _ _).alloc (Nat.le_refl _) (.cells #[.int .i64 k5, .int .i64 x5, .int .u64 (b5 : Int), .string s5, .slice ai5 n5 d5, .slice ak5 m5 e5] 26))
    have hbC := Vm.then hbB hb'
    have HBC := Lib.hid (HBB.out.on HBB.out.lt hb')
    have HLC := Lib.hid (HLB.out.on' hb')
    clear hbB hb' HBB HLB hown z0 z1 z2 z3 z4 z5
    have YC := HBC.out.cells
    go_wp2_with (refine Vm.stop 143 ?_)
    generalize W5.alloc (.cells #[.int .i64 k5, .int .i64 x5, .int .u64 (b5 : Int), .string s5, .slice ai5 n5 d5, .slice ak5 m5 e5] 26) = W6 at *
    constructor
    obtain ⟨z0, z1, z2, z3, z4, z5⟩ := YC
    go_wp2_with fail
    refine (Vm.may t _ _ HLC.out).mono ?_
    rintro e W7 ⟨rfl, hb'⟩
    rw [HM.out]
    have hbD := Vm.then hbC hb'
    have HBD := Lib.hid (HBC.out.on HBC.out.lt hb')
    have HLD := Lib.hid (HLC.out.on' hb')
    clear hbC hb' HBC HLC z0 z1 z2 z3 z4 z5
    obtain ⟨z0, z1, z2, z3, z4, z5⟩ := HBD.out.cells
    go_wp2_with fail
    refine (Vm.truth t _ _ HLD.out).mono ?_
    rintro e W8 ⟨rfl, hb'⟩
    rw [Vt.truth_no HM.out]
    have hbE := Vm.then hbD hb'
    have HBE := Lib.hid (HBD.out.on HBD.out.lt hb')
    have HLE := Lib.hid (HLD.out.on' hb')
    clear hbD hb' HBD HLD z0 z1 z2 z3 z4 z5
    obtain ⟨z0, z1, z2, z3, z4, z5⟩ := HBE.out.cells
    go_wp2_with fail
    refine (Va.same t t _ _ _ HLE.out HLE.out).mono ?_
    rintro e W9 ⟨rfl, hb'⟩
    rw [Vt.same_no (.inl HM.out)]
    have hbF := Vm.then hbE hb'
    clear hbE hb' HBE HLE z0 z1 z2 z3 z4 z5
    go_wp2_with fail
    refine (Vn.errno 400 _).mono ?_
    rintro e W9 ⟨rfl, rfl⟩
    go_wp2_with fail
    refine (Vn.errno 400 _).mono ?_
    rintro e W9 ⟨rfl, rfl⟩
    go_wp2_with fail
    refine (Vn.errno 400 _).mono ?_
    rintro e W9 ⟨rfl, rfl⟩
    go_wp2
    go_ret
    exact ⟨rfl, hbF⟩
  · skip
    go_wp2_with (refine Vm.stop 125 ?_)
    refine Vm.stillAt (Vq.Bad w gV) (⟨_, _, _, _, _, _, _, _, _, _, _, HS.out.below.setCell (by simp; omega) _, HS.out.boxV.other (by omega) _ _, Vq.lies (HS.out.items.set 9 (.string ⟨#[120]⟩)) (HS.out.keys.other (by omega) _ _) (Vw.iLies 1 _ _) (Vt.leaf_lies 0 0 0 ⟨#[120]⟩ (by decide) _ _) 6 0 0 (by decide) ⟨#[]⟩ 2 (by decide), Vq.no1 (Vq.leaf_no (by simp [Vt.formed]))⟩) ?_
    rintro W2 ⟨t, k1, x1, b1, s1, ai1, n1, e1, ak1, m1, d1, hb, hB, hl, hm⟩
    clear c0 c1 c2 c3 c4 c5 ci0 ci1 ci2 ci3 ci4 ci5 di0 di1 di2 di3 di4 di5 ck0 ck1 fV fI fK
    have HB := Lib.hid hB
    have HL := Lib.hid hl
    have HM := Lib.hid hm
    have HTT := Lib.hid (HT.out.on hb)
    obtain ⟨z0, z1, z2, z3, z4, z5⟩ := hB.cells
    clear hB hl hm
    go_wp2_with fail
    refine (Vm.told t _ _ HL.out HTT.out).mono ?_
    rintro e W3 ⟨rfl, hb'⟩
    rw [Vt.told_no HM.out]
    have hbA := Vm.then hb hb'
    have HBA := Lib.hid (HB.out.on HB.out.lt hb')
    have HLA := Lib.hid (HL.out.on' hb')
    clear hb hb' HB HL HTT z0 z1 z2 z3 z4 z5
    obtain ⟨z0, z1, z2, z3, z4, z5⟩ := HBA.out.cells
    go_wp2_with fail
    refine (Vl.less t t _ _ _ HLA.out HLA.out).mono ?_
    rintro e W4 ⟨rfl, hb'⟩
    rw [Vt.less_no (.inl HM.out)]
    have hbB := Vm.then hbA hb'
    have HBB := Lib.hid (HBA.out.on HBA.out.lt hb')
    have HLB := Lib.hid (HLA.out.on' hb')
    clear hbA hb' HBA HLA z0 z1 z2 z3 z4 z5
    obtain ⟨z0, z1, z2, z3, z4, z5⟩ := HBB.out.cells
    go_wp2_with fail
    refine (Vg.get t _ 0 (fun _ => ⟨#[]⟩) none 0 _ HLB.out ⟨Nat.le_refl _, by decide, fun j hj => absurd hj (by omega)⟩).mono ?_
    rintro e W5 ⟨v', rfl, hown, hb'⟩
    rw [Vt.get_no HM.out] at hown ⊢
    obtain ⟨k5, x5, b5, s5, ai5, n5, d5, ak5, m5, e5, rfl⟩ := hown.form
    replace hb' := Vm.then hb' ((Below.refl _ _).alloc (Nat.le_refl _) (.cells #[.int .i64 k5, .int .i64 x5, .int .u64 (b5 : Int), .string s5, .slice ai5 n5 d5, .slice ak5 m5 e5] 26))
    have hbC := Vm.then hbB hb'
    have HBC := Lib.hid (HBB.out.on HBB.out.lt hb')
    have HLC := Lib.hid (HLB.out.on' hb')
    clear hbB hb' HBB HLB hown z0 z1 z2 z3 z4 z5
    have YC := HBC.out.cells
    go_wp2_with (refine Vm.stop 143 ?_)
    generalize W5.alloc (.cells #[.int .i64 k5, .int .i64 x5, .int .u64 (b5 : Int), .string s5, .slice ai5 n5 d5, .slice ak5 m5 e5] 26) = W6 at *
    constructor
    obtain ⟨z0, z1, z2, z3, z4, z5⟩ := YC
    go_wp2_with fail
    refine (Vm.may t _ _ HLC.out).mono ?_
    rintro e W7 ⟨rfl, hb'⟩
    rw [HM.out]
    have hbD := Vm.then hbC hb'
    have HBD := Lib.hid (HBC.out.on HBC.out.lt hb')
    have HLD := Lib.hid (HLC.out.on' hb')
    clear hbC hb' HBC HLC z0 z1 z2 z3 z4 z5
    obtain ⟨z0, z1, z2, z3, z4, z5⟩ := HBD.out.cells
    go_wp2_with fail
    refine (Vm.truth t _ _ HLD.out).mono ?_
    rintro e W8 ⟨rfl, hb'⟩
    rw [Vt.truth_no HM.out]
    have hbE := Vm.then hbD hb'
    have HBE := Lib.hid (HBD.out.on HBD.out.lt hb')
    have HLE := Lib.hid (HLD.out.on' hb')
    clear hbD hb' HBD HLD z0 z1 z2 z3 z4 z5
    obtain ⟨z0, z1, z2, z3, z4, z5⟩ := HBE.out.cells
    go_wp2_with fail
    refine (Va.same t t _ _ _ HLE.out HLE.out).mono ?_
    rintro e W9 ⟨rfl, hb'⟩
    rw [Vt.same_no (.inl HM.out)]
    have hbF := Vm.then hbE hb'
    clear hbE hb' HBE HLE z0 z1 z2 z3 z4 z5
    go_wp2_with fail
    refine (Vn.errno 400 _).mono ?_
    rintro e W9 ⟨rfl, rfl⟩
    go_wp2_with fail
    refine (Vn.errno 400 _).mono ?_
    rintro e W9 ⟨rfl, rfl⟩
    go_wp2_with fail
    refine (Vn.errno 400 _).mono ?_
    rintro e W9 ⟨rfl, rfl⟩
    go_wp2
    go_ret
    exact ⟨rfl, hbF⟩
  · skip
    obtain ⟨cur, hcur, hmk⟩ := Vq.make (65537 + c) (by omega)
    obtain ⟨S, hS, hcv⟩ := Vq.text (65537 + c) cur hcur
    have hmk' := hmk W.drew
    have hcv' := hcv (W.alloc (.cells cur 5)).drew W.heap.size (Vm.Has.new W _ _ rfl)
    rw [show ((65537 + c : Nat) : Int) = 65536 + (1 + (c : Int)) by omega] at hmk'
    simp only [World.size_drew] at hmk'
    clear hmk hcv hcur
    have A := HS.out.alloc (.cells cur 5)
    have ai6 := A.items.cell 6 rfl
    have ai7 := A.items.cell 7 rfl
    have ai8 := A.items.cell 8 rfl
    have ai9 := A.items.cell 9 rfl
    have ai10 := A.items.cell 10 rfl
    have ai11 := A.items.cell 11 rfl
    have fA := fun i => A.items.frozen i
    have HA := Lib.hid A
    clear A
    have HSZ := Lib.hid hS
    clear hS
    go_wp2_with fail
    go_region
    go_wp2_with (refine Vm.stop 125 ?_)
    refine Vm.stillAt (Vq.Bad w gV) (have WR := Vm.set6 (W.alloc (.cells cur 5)) gI 6 (.int .i64 4) (.int .i64 0) (.int .u64 0) (.string S) (.slice none 0 0) (.slice none 0 0); have IR := Vm.set6_row HA.out.items 6 (.int .i64 4) (.int .i64 0) (.int .u64 0) (.string S) (.slice none 0 0) (.slice none 0 0); ⟨_, _, _, _, _, _, _, _, _, _, _, (WR.below HA.out.below (by omega)).drew, (HA.out.boxV.wrote WR (by omega)).drew, Vq.lies (Vm.Has.drew IR) (HA.out.keys.wrote WR (by omega)).drew (Vw.iLies 1 _ _) (Vt.leaf_lies 4 0 0 S (by decide) _ _) 6 0 0 (by decide) ⟨#[]⟩ 2 (by decide), Vq.no1 (Vq.leaf_no (by have := HSZ.out; simp [Vt.formed]; omega))⟩) ?_
    clear ai6 ai7 ai8 ai9 ai10 ai11 fA hmk' hcv'
    rintro W2 ⟨t, k1, x1, b1, s1, ai1, n1, e1, ak1, m1, d1, hb, hB, hl, hm⟩
    clear c0 c1 c2 c3 c4 c5 ci0 ci1 ci2 ci3 ci4 ci5 di0 di1 di2 di3 di4 di5 ck0 ck1 fV fI fK
    have HB := Lib.hid hB
    have HL := Lib.hid hl
    have HM := Lib.hid hm
    have HTT := Lib.hid (HT.out.on hb)
    obtain ⟨z0, z1, z2, z3, z4, z5⟩ := hB.cells
    clear hB hl hm
    go_wp2_with fail
    refine (Vm.told t _ _ HL.out HTT.out).mono ?_
    rintro e W3 ⟨rfl, hb'⟩
    rw [Vt.told_no HM.out]
    have hbA := Vm.then hb hb'
    have HBA := Lib.hid (HB.out.on HB.out.lt hb')
    have HLA := Lib.hid (HL.out.on' hb')
    clear hb hb' HB HL HTT z0 z1 z2 z3 z4 z5
    obtain ⟨z0, z1, z2, z3, z4, z5⟩ := HBA.out.cells
    go_wp2_with fail
    refine (Vl.less t t _ _ _ HLA.out HLA.out).mono ?_
    rintro e W4 ⟨rfl, hb'⟩
    rw [Vt.less_no (.inl HM.out)]
    have hbB := Vm.then hbA hb'
    have HBB := Lib.hid (HBA.out.on HBA.out.lt hb')
    have HLB := Lib.hid (HLA.out.on' hb')
    clear hbA hb' HBA HLA z0 z1 z2 z3 z4 z5
    obtain ⟨z0, z1, z2, z3, z4, z5⟩ := HBB.out.cells
    go_wp2_with fail
    refine (Vg.get t _ 0 (fun _ => ⟨#[]⟩) none 0 _ HLB.out ⟨Nat.le_refl _, by decide, fun j hj => absurd hj (by omega)⟩).mono ?_
    rintro e W5 ⟨v', rfl, hown, hb'⟩
    rw [Vt.get_no HM.out] at hown ⊢
    obtain ⟨k5, x5, b5, s5, ai5, n5, d5, ak5, m5, e5, rfl⟩ := hown.form
    replace hb' := Vm.then hb' ((Below.refl _ _).alloc (Nat.le_refl _) (.cells #[.int .i64 k5, .int .i64 x5, .int .u64 (b5 : Int), .string s5, .slice ai5 n5 d5, .slice ak5 m5 e5] 26))
    have hbC := Vm.then hbB hb'
    have HBC := Lib.hid (HBB.out.on HBB.out.lt hb')
    have HLC := Lib.hid (HLB.out.on' hb')
    clear hbB hb' HBB HLB hown z0 z1 z2 z3 z4 z5
    have YC := HBC.out.cells
    go_wp2_with (refine Vm.stop 143 ?_)
    generalize W5.alloc (.cells #[.int .i64 k5, .int .i64 x5, .int .u64 (b5 : Int), .string s5, .slice ai5 n5 d5, .slice ak5 m5 e5] 26) = W6 at *
    constructor
    obtain ⟨z0, z1, z2, z3, z4, z5⟩ := YC
    go_wp2_with fail
    refine (Vm.may t _ _ HLC.out).mono ?_
    rintro e W7 ⟨rfl, hb'⟩
    rw [HM.out]
    have hbD := Vm.then hbC hb'
    have HBD := Lib.hid (HBC.out.on HBC.out.lt hb')
    have HLD := Lib.hid (HLC.out.on' hb')
    clear hbC hb' HBC HLC z0 z1 z2 z3 z4 z5
    obtain ⟨z0, z1, z2, z3, z4, z5⟩ := HBD.out.cells
    go_wp2_with fail
    refine (Vm.truth t _ _ HLD.out).mono ?_
    rintro e W8 ⟨rfl, hb'⟩
    rw [Vt.truth_no HM.out]
    have hbE := Vm.then hbD hb'
    have HBE := Lib.hid (HBD.out.on HBD.out.lt hb')
    have HLE := Lib.hid (HLD.out.on' hb')
    clear hbD hb' HBD HLD z0 z1 z2 z3 z4 z5
    obtain ⟨z0, z1, z2, z3, z4, z5⟩ := HBE.out.cells
    go_wp2_with fail
    refine (Va.same t t _ _ _ HLE.out HLE.out).mono ?_
    rintro e W9 ⟨rfl, hb'⟩
    rw [Vt.same_no (.inl HM.out)]
    have hbF := Vm.then hbE hb'
    clear hbE hb' HBE HLE z0 z1 z2 z3 z4 z5
    go_wp2_with fail
    refine (Vn.errno 400 _).mono ?_
    rintro e W9 ⟨rfl, rfl⟩
    go_wp2_with fail
    refine (Vn.errno 400 _).mono ?_
    rintro e W9 ⟨rfl, rfl⟩
    go_wp2_with fail
    refine (Vn.errno 400 _).mono ?_
    rintro e W9 ⟨rfl, rfl⟩
    go_wp2
    go_ret
    exact ⟨rfl, hbF⟩
  · skip
    obtain ⟨cur, hcur, hmk⟩ := Vq.makeV (65 + c) (by omega)
    have HCU := Lib.hid hcur
    clear hcur
    have hmk' := hmk (W.setCell ⟨gI, 6, none⟩ (.int .i64 5)).drew
    rw [show ((65 + c : Nat) : Int) = 64 + (1 + (c : Int)) by omega] at hmk'
    simp only [World.size_drew, World.size_setCell] at hmk'
    clear hmk
    have I1 := (HS.out.items.set 6 (.int .i64 5)).alloc (.cells cur 26)
    have K1 := (HS.out.keys.other (g' := gI) (by omega) 6 (.int .i64 5)).alloc (.cells cur 26)
    have V1 := (HS.out.boxV.other (g' := gI) (by omega) 6 (.int .i64 5)).alloc (by simp; omega) (.cells cur 26)
    have B1 := (HS.out.below.setCell (p := ⟨gI, 6, none⟩) (by simp; omega) (.int .i64 5)).alloc (by have := HS.out.below.size; simp; omega) (.cells cur 26)
    have N1 := Vm.Has.new (W.setCell ⟨gI, 6, none⟩ (.int .i64 5)) (.cells cur 26) W.heap.size (by simp)
    have z10 := I1.cell 10 rfl
    have zf := I1.frozen 10
    have HI1 := Lib.hid I1
    have HK1 := Lib.hid K1
    have HV1 := Lib.hid V1
    have HB1 := Lib.hid B1
    have HN1 := Lib.hid N1
    clear I1 K1 V1 B1 N1
    go_wp2_with fail
    go_region
    go_wp2_with (refine Vm.stop 125 ?_)
    refine Vm.stillAt (Vq.Bad w gV) ⟨_, _, _, _, _, _, _, _, _, _, _, (HB1.out.setCell (p := ⟨gI, 10, none⟩) (by simp; omega) (.slice (some ⟨W.heap.size, 0, none⟩) (65 + c) (65 + c))).drew, (HV1.out.other (g' := gI) (by omega) 10 (.slice (some ⟨W.heap.size, 0, none⟩) (65 + c) (65 + c))).drew, Vq.lies (HI1.out.set 10 (.slice (some ⟨W.heap.size, 0, none⟩) (65 + c) (65 + c))).drew (HK1.out.other (g' := gI) (by omega) 10 (.slice (some ⟨W.heap.size, 0, none⟩) (65 + c) (65 + c))).drew (Vw.iLies 1 _ _) (Vq.many_lies HCU.out (by omega) (HN1.out.other (g' := gI) (by omega) 10 (.slice (some ⟨W.heap.size, 0, none⟩) (65 + c) (65 + c))).drew) 6 0 0 (by decide) ⟨#[]⟩ 2 (by decide), Vq.no1 (Vq.many_no (65 + c) (by omega))⟩ ?_
    clear hmk' z10 zf
    rintro W2 ⟨t, k1, x1, b1, s1, ai1, n1, e1, ak1, m1, d1, hb, hB, hl, hm⟩
    clear c0 c1 c2 c3 c4 c5 ci0 ci1 ci2 ci3 ci4 ci5 di0 di1 di2 di3 di4 di5 ck0 ck1 fV fI fK
    have HB := Lib.hid hB
    have HL := Lib.hid hl
    have HM := Lib.hid hm
    have HTT := Lib.hid (HT.out.on hb)
    obtain ⟨z0, z1, z2, z3, z4, z5⟩ := hB.cells
    clear hB hl hm
    go_wp2_with fail
    refine (Vm.told t _ _ HL.out HTT.out).mono ?_
    rintro e W3 ⟨rfl, hb'⟩
    rw [Vt.told_no HM.out]
    have hbA := Vm.then hb hb'
    have HBA := Lib.hid (HB.out.on HB.out.lt hb')
    have HLA := Lib.hid (HL.out.on' hb')
    clear hb hb' HB HL HTT z0 z1 z2 z3 z4 z5
    obtain ⟨z0, z1, z2, z3, z4, z5⟩ := HBA.out.cells
    go_wp2_with fail
    refine (Vl.less t t _ _ _ HLA.out HLA.out).mono ?_
    rintro e W4 ⟨rfl, hb'⟩
    rw [Vt.less_no (.inl HM.out)]
    have hbB := Vm.then hbA hb'
    have HBB := Lib.hid (HBA.out.on HBA.out.lt hb')
    have HLB := Lib.hid (HLA.out.on' hb')
    clear hbA hb' HBA HLA z0 z1 z2 z3 z4 z5
    obtain ⟨z0, z1, z2, z3, z4, z5⟩ := HBB.out.cells
    go_wp2_with fail
    refine (Vg.get t _ 0 (fun _ => ⟨#[]⟩) none 0 _ HLB.out ⟨Nat.le_refl _, by decide, fun j hj => absurd hj (by omega)⟩).mono ?_
    rintro e W5 ⟨v', rfl, hown, hb'⟩
    rw [Vt.get_no HM.out] at hown ⊢
    obtain ⟨k5, x5, b5, s5, ai5, n5, d5, ak5, m5, e5, rfl⟩ := hown.form
    replace hb' := Vm.then hb' ((Below.refl _ _).alloc (Nat.le_refl _) (.cells #[.int .i64 k5, .int .i64 x5, .int .u64 (b5 : Int), .string s5, .slice ai5 n5 d5, .slice ak5 m5 e5] 26))
    have hbC := Vm.then hbB hb'
    have HBC := Lib.hid (HBB.out.on HBB.out.lt hb')
    have HLC := Lib.hid (HLB.out.on' hb')
    clear hbB hb' HBB HLB hown z0 z1 z2 z3 z4 z5
    have YC := HBC.out.cells
    go_wp2_with (refine Vm.stop 143 ?_)
    generalize W5.alloc (.cells #[.int .i64 k5, .int .i64 x5, .int .u64 (b5 : Int), .string s5, .slice ai5 n5 d5, .slice ak5 m5 e5] 26) = W6 at *
    constructor
    obtain ⟨z0, z1, z2, z3, z4, z5⟩ := YC
    go_wp2_with fail
    refine (Vm.may t _ _ HLC.out).mono ?_
    rintro e W7 ⟨rfl, hb'⟩
    rw [HM.out]
    have hbD := Vm.then hbC hb'
    have HBD := Lib.hid (HBC.out.on HBC.out.lt hb')
    have HLD := Lib.hid (HLC.out.on' hb')
    clear hbC hb' HBC HLC z0 z1 z2 z3 z4 z5
    obtain ⟨z0, z1, z2, z3, z4, z5⟩ := HBD.out.cells
    go_wp2_with fail
    refine (Vm.truth t _ _ HLD.out).mono ?_
    rintro e W8 ⟨rfl, hb'⟩
    rw [Vt.truth_no HM.out]
    have hbE := Vm.then hbD hb'
    have HBE := Lib.hid (HBD.out.on HBD.out.lt hb')
    have HLE := Lib.hid (HLD.out.on' hb')
    clear hbD hb' HBD HLD z0 z1 z2 z3 z4 z5
    obtain ⟨z0, z1, z2, z3, z4, z5⟩ := HBE.out.cells
    go_wp2_with fail
    refine (Va.same t t _ _ _ HLE.out HLE.out).mono ?_
    rintro e W9 ⟨rfl, hb'⟩
    rw [Vt.same_no (.inl HM.out)]
    have hbF := Vm.then hbE hb'
    clear hbE hb' HBE HLE z0 z1 z2 z3 z4 z5
    go_wp2_with fail
    refine (Vn.errno 400 _).mono ?_
    rintro e W9 ⟨rfl, rfl⟩
    go_wp2_with fail
    refine (Vn.errno 400 _).mono ?_
    rintro e W9 ⟨rfl, rfl⟩
    go_wp2_with fail
    refine (Vn.errno 400 _).mono ?_
    rintro e W9 ⟨rfl, rfl⟩
    go_wp2
    go_ret
    exact ⟨rfl, hbF⟩
  · skip
    go_wp2_with (refine Vm.stop 125 ?_)
    refine Vm.stillAt (Vq.Bad w gV) (⟨_, _, _, _, _, _, _, _, _, _, _, HS.out.below.setCell (by simp; omega) _, HS.out.boxV.set0 _, Vq.lies (HS.out.items.other (by omega) _ _) (HS.out.keys.other (by omega) _ _) (Vw.iLies 1 _ _) (Vt.leaf_lies 0 0 0 ⟨#[]⟩ (by decide) _ _) (5) (0) (0) (by decide) ⟨#[]⟩ 2 (by decide), Vq.no (by simp [Vt.formed])⟩) ?_
    rintro W2 ⟨t, k1, x1, b1, s1, ai1, n1, e1, ak1, m1, d1, hb, hB, hl, hm⟩
    clear c0 c1 c2 c3 c4 c5 ci0 ci1 ci2 ci3 ci4 ci5 di0 di1 di2 di3 di4 di5 ck0 ck1 fV fI fK
    have HB := Lib.hid hB
    have HL := Lib.hid hl
    have HM := Lib.hid hm
    have HTT := Lib.hid (HT.out.on hb)
    obtain ⟨z0, z1, z2, z3, z4, z5⟩ := hB.cells
    clear hB hl hm
    go_wp2_with fail
    refine (Vm.told t _ _ HL.out HTT.out).mono ?_
    rintro e W3 ⟨rfl, hb'⟩
    rw [Vt.told_no HM.out]
    have hbA := Vm.then hb hb'
    have HBA := Lib.hid (HB.out.on HB.out.lt hb')
    have HLA := Lib.hid (HL.out.on' hb')
    clear hb hb' HB HL HTT z0 z1 z2 z3 z4 z5
    obtain ⟨z0, z1, z2, z3, z4, z5⟩ := HBA.out.cells
    go_wp2_with fail
    refine (Vl.less t t _ _ _ HLA.out HLA.out).mono ?_
    rintro e W4 ⟨rfl, hb'⟩
    rw [Vt.less_no (.inl HM.out)]
    have hbB := Vm.then hbA hb'
    have HBB := Lib.hid (HBA.out.on HBA.out.lt hb')
    have HLB := Lib.hid (HLA.out.on' hb')
    clear hbA hb' HBA HLA z0 z1 z2 z3 z4 z5
    obtain ⟨z0, z1, z2, z3, z4, z5⟩ := HBB.out.cells
    go_wp2_with fail
    refine (Vg.get t _ 0 (fun _ => ⟨#[]⟩) none 0 _ HLB.out ⟨Nat.le_refl _, by decide, fun j hj => absurd hj (by omega)⟩).mono ?_
    rintro e W5 ⟨v', rfl, hown, hb'⟩
    rw [Vt.get_no HM.out] at hown ⊢
    obtain ⟨k5, x5, b5, s5, ai5, n5, d5, ak5, m5, e5, rfl⟩ := hown.form
    replace hb' := Vm.then hb' ((Below.refl _ _).alloc (Nat.le_refl _) (.cells #[.int .i64 k5, .int .i64 x5, .int .u64 (b5 : Int), .string s5, .slice ai5 n5 d5, .slice ak5 m5 e5] 26))
    have hbC := Vm.then hbB hb'
    have HBC := Lib.hid (HBB.out.on HBB.out.lt hb')
    have HLC := Lib.hid (HLB.out.on' hb')
    clear hbB hb' HBB HLB hown z0 z1 z2 z3 z4 z5
    have YC := HBC.out.cells
    go_wp2_with (refine Vm.stop 143 ?_)
    generalize W5.alloc (.cells #[.int .i64 k5, .int .i64 x5, .int .u64 (b5 : Int), .string s5, .slice ai5 n5 d5, .slice ak5 m5 e5] 26) = W6 at *
    constructor
    obtain ⟨z0, z1, z2, z3, z4, z5⟩ := YC
    go_wp2_with fail
    refine (Vm.may t _ _ HLC.out).mono ?_
    rintro e W7 ⟨rfl, hb'⟩
    rw [HM.out]
    have hbD := Vm.then hbC hb'
    have HBD := Lib.hid (HBC.out.on HBC.out.lt hb')
    have HLD := Lib.hid (HLC.out.on' hb')
    clear hbC hb' HBC HLC z0 z1 z2 z3 z4 z5
    obtain ⟨z0, z1, z2, z3, z4, z5⟩ := HBD.out.cells
    go_wp2_with fail
    refine (Vm.truth t _ _ HLD.out).mono ?_
    rintro e W8 ⟨rfl, hb'⟩
    rw [Vt.truth_no HM.out]
    have hbE := Vm.then hbD hb'
    have HBE := Lib.hid (HBD.out.on HBD.out.lt hb')
    have HLE := Lib.hid (HLD.out.on' hb')
    clear hbD hb' HBD HLD z0 z1 z2 z3 z4 z5
    obtain ⟨z0, z1, z2, z3, z4, z5⟩ := HBE.out.cells
    go_wp2_with fail
    refine (Va.same t t _ _ _ HLE.out HLE.out).mono ?_
    rintro e W9 ⟨rfl, hb'⟩
    rw [Vt.same_no (.inl HM.out)]
    have hbF := Vm.then hbE hb'
    clear hbE hb' HBE HLE z0 z1 z2 z3 z4 z5
    go_wp2_with fail
    refine (Vn.errno 400 _).mono ?_
    rintro e W9 ⟨rfl, rfl⟩
    go_wp2_with fail
    refine (Vn.errno 400 _).mono ?_
    rintro e W9 ⟨rfl, rfl⟩
    go_wp2_with fail
    refine (Vn.errno 400 _).mono ?_
    rintro e W9 ⟨rfl, rfl⟩
    go_wp2
    go_ret
    exact ⟨rfl, hbF⟩
  · skip
    go_wp2_with (refine Vm.stop 32 ?_)
    refine Vm.stillAt (fun W2 => Vq.St w W2 gV gI gK ∧ Vm.Has W2 W.heap.size (.cells #[.string ⟨#[107]⟩] 9)) ⟨HS.out.alloc _, Vm.Has.new W _ _ rfl⟩ ?_
    rintro W2 ⟨S2, K2⟩
    clear c0 c1 c2 c3 c4 c5 ci0 ci1 ci2 ci3 ci4 ci5 di0 di1 di2 di3 di4 di5 ck0 ck1 fV fI fK
    have z11 := S2.items.cell 11 rfl
    have zf := fun i => S2.items.frozen i
    have HS2 := Lib.hid S2
    have HK2 := Lib.hid K2
    have hne : W.heap.size ≠ gI := by omega
    generalize W.heap.size = g3 at *
    clear S2 K2
    go_wp2_with (refine Vm.stop 125 ?_)
    refine Vm.stillAt (Vq.Bad w gV) ⟨_, _, _, _, _, _, _, _, _, _, _, HS2.out.below.setCell (by simp; omega) _, HS2.out.boxV.other (by omega) _ _, Vq.lies (HS2.out.items.set 11 (.slice (some ⟨g3, 0, none⟩) 1 1)) (HS2.out.keys.other (by omega) _ _) (Vw.iLies 1 _ _) (Vq.keyed_lies (HK2.out.other hne _ _)) 6 0 0 (by decide) ⟨#[]⟩ 2 (by decide), Vq.no1 Vq.keyed_no⟩ ?_
    rintro W2 ⟨t, k1, x1, b1, s1, ai1, n1, e1, ak1, m1, d1, hb, hB, hl, hm⟩
    clear z11 zf
    have HB := Lib.hid hB
    have HL := Lib.hid hl
    have HM := Lib.hid hm
    have HTT := Lib.hid (HT.out.on hb)
    obtain ⟨z0, z1, z2, z3, z4, z5⟩ := hB.cells
    clear hB hl hm
    go_wp2_with fail
    refine (Vm.told t _ _ HL.out HTT.out).mono ?_
    rintro e W3 ⟨rfl, hb'⟩
    rw [Vt.told_no HM.out]
    have hbA := Vm.then hb hb'
    have HBA := Lib.hid (HB.out.on HB.out.lt hb')
    have HLA := Lib.hid (HL.out.on' hb')
    clear hb hb' HB HL HTT z0 z1 z2 z3 z4 z5
    obtain ⟨z0, z1, z2, z3, z4, z5⟩ := HBA.out.cells
    go_wp2_with fail
    refine (Vl.less t t _ _ _ HLA.out HLA.out).mono ?_
    rintro e W4 ⟨rfl, hb'⟩
    rw [Vt.less_no (.inl HM.out)]
    have hbB := Vm.then hbA hb'
    have HBB := Lib.hid (HBA.out.on HBA.out.lt hb')
    have HLB := Lib.hid (HLA.out.on' hb')
    clear hbA hb' HBA HLA z0 z1 z2 z3 z4 z5
    obtain ⟨z0, z1, z2, z3, z4, z5⟩ := HBB.out.cells
    go_wp2_with fail
    refine (Vg.get t _ 0 (fun _ => ⟨#[]⟩) none 0 _ HLB.out ⟨Nat.le_refl _, by decide, fun j hj => absurd hj (by omega)⟩).mono ?_
    rintro e W5 ⟨v', rfl, hown, hb'⟩
    rw [Vt.get_no HM.out] at hown ⊢
    obtain ⟨k5, x5, b5, s5, ai5, n5, d5, ak5, m5, e5, rfl⟩ := hown.form
    replace hb' := Vm.then hb' ((Below.refl _ _).alloc (Nat.le_refl _) (.cells #[.int .i64 k5, .int .i64 x5, .int .u64 (b5 : Int), .string s5, .slice ai5 n5 d5, .slice ak5 m5 e5] 26))
    have hbC := Vm.then hbB hb'
    have HBC := Lib.hid (HBB.out.on HBB.out.lt hb')
    have HLC := Lib.hid (HLB.out.on' hb')
    clear hbB hb' HBB HLB hown z0 z1 z2 z3 z4 z5
    have YC := HBC.out.cells
    go_wp2_with (refine Vm.stop 143 ?_)
    generalize W5.alloc (.cells #[.int .i64 k5, .int .i64 x5, .int .u64 (b5 : Int), .string s5, .slice ai5 n5 d5, .slice ak5 m5 e5] 26) = W6 at *
    constructor
    obtain ⟨z0, z1, z2, z3, z4, z5⟩ := YC
    go_wp2_with fail
    refine (Vm.may t _ _ HLC.out).mono ?_
    rintro e W7 ⟨rfl, hb'⟩
    rw [HM.out]
    have hbD := Vm.then hbC hb'
    have HBD := Lib.hid (HBC.out.on HBC.out.lt hb')
    have HLD := Lib.hid (HLC.out.on' hb')
    clear hbC hb' HBC HLC z0 z1 z2 z3 z4 z5
    obtain ⟨z0, z1, z2, z3, z4, z5⟩ := HBD.out.cells
    go_wp2_with fail
    refine (Vm.truth t _ _ HLD.out).mono ?_
    rintro e W8 ⟨rfl, hb'⟩
    rw [Vt.truth_no HM.out]
    have hbE := Vm.then hbD hb'
    have HBE := Lib.hid (HBD.out.on HBD.out.lt hb')
    have HLE := Lib.hid (HLD.out.on' hb')
    clear hbD hb' HBD HLD z0 z1 z2 z3 z4 z5
    obtain ⟨z0, z1, z2, z3, z4, z5⟩ := HBE.out.cells
    go_wp2_with fail
    refine (Va.same t t _ _ _ HLE.out HLE.out).mono ?_
    rintro e W9 ⟨rfl, hb'⟩
    rw [Vt.same_no (.inl HM.out)]
    have hbF := Vm.then hbE hb'
    clear hbE hb' HBE HLE z0 z1 z2 z3 z4 z5
    go_wp2_with fail
    refine (Vn.errno 400 _).mono ?_
    rintro e W9 ⟨rfl, rfl⟩
    go_wp2_with fail
    refine (Vn.errno 400 _).mono ?_
    rintro e W9 ⟨rfl, rfl⟩
    go_wp2_with fail
    refine (Vn.errno 400 _).mono ?_
    rintro e W9 ⟨rfl, rfl⟩
    go_wp2
    go_ret
    exact ⟨rfl, hbF⟩
end Go.Proofs.YtmiabkoodoekdaaDoor

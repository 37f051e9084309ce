/-
  PLAIN: sources that are none; texts of zeros.
-/
import Derived.Test.YtfcmcmokmhklhaaDoorLOne
import Derived.Test.YtfcmcmokmhklhaaDoorLBlk
import Derived.KernelRfl
namespace Go.Proofs.YtfcmcmokmhklhaaDoor
open Go.RowKit
/-- a text of zeros -/
theorem Lz.zerosN (n : Nat) (hn : n ≤ 1000000) : ∃ (M : Array Value) (Z : ByteArray), Z.size = n ∧ Z.data.toList = List.replicate n 0 ∧ (∀ u : World, (Instr.makeSlice 41 (.int .i64 (n : Int)) (.int .i64 (n : Int))).run Tryd.prog u = .ok (.slice (some ⟨u.heap.size, 0, none⟩) n n) (u.alloc (.cells M 5))) ∧
    (∀ u : World, (convert 41 9 (.slice (some ⟨u.heap.size, 0, none⟩) n n)).run Tryd.prog (u.alloc (.cells M 5)) = .ok (.string Z) (u.alloc (.cells M 5))) := by
  obtain ⟨i0, hi, hz0, hz1, hz2⟩ := info_parts Rl.info
  refine ⟨madeCells #[.int .u8 0] n, ⟨(List.replicate n 0).toArray⟩, ?_, List.toList_toArray, fun u => ?_, fun u => ?_⟩
  · rw [← Wk.len_data]
    show (List.replicate n (0 : UInt8)).toArray.toList.length = _
    rw [List.toList_toArray, List.length_replicate]
  · have h := run_make (P := Tryd.prog) u 41 5 i0 (.int .u8 0) Tryd.underlying41 hi hz0 .i64 .i64 (n : Int) (n : Int) (by omega) (Int.le_refl _) (by rw [hz2]; omega) (by omega)
    simpa [hz1, Value.cells] using h
  · have h := run_convert_bytes_back (P := Tryd.prog) (u.alloc (.cells (madeCells #[.int .u8 0] n) 5)) 41 9 5 ⟨u.heap.size, 0, none⟩ n (List.replicate n 0) Tryd.underlying41 Tryd.underlying5 Tryd.underlying9 (fun j hj => by
      rw [Ro.add, Nat.zero_add]
      have hj' : j < n := by simpa using hj
      unfold World.cell?
      rw [show (u.alloc (.cells (madeCells #[.int .u8 0] n) 5)).heap[u.heap.size]? = some _ from heap_alloc_new u _]
      show (madeCells #[.int .u8 0] n)[j]? = _
      rw [← Array.getElem?_toList, toList_madeCells_one, List.getElem?_replicate, if_pos hj', List.getElem_replicate]
      rfl)
    rw [List.length_replicate] at h
    exact h
def Lz.bad : Array Value := #[.string ⟨#[123, 123]⟩, .string ⟨#[123, 123, 125]⟩, .string ⟨#[123, 123, 32, 34, 125, 125]⟩, .string ⟨#[123, 123, 47, 42, 32, 125, 125]⟩, .string ⟨#[123, 123, 47, 42, 32, 42, 47]⟩, .string ⟨#[123, 123, 47, 42, 32, 42, 47, 32, 120, 125, 125]⟩, .string ⟨#[123, 123, 47, 42, 32, 42, 47, 45, 125, 125]⟩, .string ⟨#[97, 123, 123, 98, 123, 123, 99]⟩, .string ⟨#[123, 123, 34, 92, 34, 125, 125]⟩]
theorem Lz.named (q : Nat) (hq : q < 9) : ∃ nm : ByteArray, Lz.bad[q]? = some (.string nm) ∧ Lx.split (⟨#[97]⟩ ++ nm) = ([], 1300) ∧ nm.size ≤ 20 := by
  match q, hq with
  | 0, _ => exact ⟨_, rfl, by kernel_rfl, by decide⟩
  | 1, _ => exact ⟨_, rfl, by kernel_rfl, by decide⟩
  | 2, _ => exact ⟨_, rfl, by kernel_rfl, by decide⟩
  | 3, _ => exact ⟨_, rfl, by kernel_rfl, by decide⟩
  | 4, _ => exact ⟨_, rfl, by kernel_rfl, by decide⟩
  | 5, _ => exact ⟨_, rfl, by kernel_rfl, by decide⟩
  | 6, _ => exact ⟨_, rfl, by kernel_rfl, by decide⟩
  | 7, _ => exact ⟨_, rfl, by kernel_rfl, by decide⟩
  | 8, _ => exact ⟨_, rfl, by kernel_rfl, by decide⟩
theorem Lz.index (wh : Int) : ∃ q : Nat, q < 9 ∧ wrap64 ((IntKind.u64.wrap wh).tmod 9) = (q : Int) := by
  have h1 : 0 ≤ IntKind.u64.wrap wh := by
    rw [IntKind.wrap_u64]
    omega
  have h2 : (IntKind.u64.wrap wh).tmod 9 = IntKind.u64.wrap wh % 9 := Int.tmod_eq_emod_of_nonneg h1
  refine ⟨(IntKind.u64.wrap wh % 9).toNat, by omega, ?_⟩
  rw [h2]
  unfold wrap64
  omega
theorem Lz.zact {k : Nat} (hk : 2 ≤ k) : Lo.Act (List.replicate k 0) := by
  obtain ⟨m, rfl⟩ : ∃ m, k = m + 2 := ⟨k - 2, by omega⟩
  refine ⟨⟨0, List.replicate m 0, 0, ?_, rfl, rfl, by decide, by decide, by decide⟩, fun c hc => ?_⟩
  · rw [List.replicate_succ, List.replicate_succ']
  · rw [List.eq_of_mem_replicate hc]
    decide
/-- AN ACTION OF ZEROS -/
theorem Lz.long {s : ByteArray} {k : Nat} (hk : 2 ≤ k) (hk2 : k ≤ 1000) (hS : s.data.toList = 123 :: 123 :: (List.replicate k 0 ++ [125, 125])) : Lx.split s = if 256 < k then ([], 1301) else ([⟨true, List.replicate k 0, 0⟩], 0) := by
  have hl : s.size = k + 4 := by rw [← Wk.len_data, hS]; simp
  have h13 : ∀ c ∈ s.data.toList, c ≠ 13 := fun c hc e => by
    subst e
    rw [hS] at hc
    simp only [List.mem_append, List.mem_cons, List.not_mem_nil, or_false] at hc
    rcases hc with hc | hc | hc | hc | hc
    · revert hc; decide
    · revert hc; decide
    · have := List.eq_of_mem_replicate hc; revert this; decide
    · revert hc; decide
    · revert hc; decide
  unfold Lx.split
  rw [if_neg (by omega), Lx.lines_id h13]
  unfold Lx.all
  have hA := Lz.zact hk
  have hd := hA.head
  have g1 := Lx.go_at (n := s.data.toList.length) (tr := false) (out := []) (S := s.data.toList) (p := 0) (t := []) (T := []) (by rw [List.drop_zero]; exact hS) (by simp) (hd _).1 (by rw [if_neg (by decide), List.drop_zero]; exact (hd _).2.1) (Lo.act1 hA []) (by simp)
  rw [g1, Lx.go_end _ _ _ (by rw [Wk.len_data, hl]; simp; omega)]
  show Lx.limits [⟨true, List.replicate k 0, 0⟩] = _
  unfold Lx.limits Lx.long
  rw [List.any_cons, List.any_nil, Bool.or_false, Bool.true_and]
  simp only [List.length_replicate, decide_eq_true_eq]
  split
  · rfl
  · rfl
def Lz.rep : Nat → List UInt8
  | 0 => []
  | n + 1 => 98 :: 123 :: 123 :: 46 :: 125 :: 125 :: Lz.rep n
theorem Lz.rep_snoc (n : Nat) : Lz.rep n ++ [98, 123, 123, 46, 125, 125] = Lz.rep (n + 1) := by
  induction n with
  | zero => rfl
  | succ n ih =>
    show 98 :: 123 :: 123 :: 46 :: 125 :: 125 :: (Lz.rep n ++ [98, 123, 123, 46, 125, 125]) = _
    rw [ih]
    rfl
theorem Lz.rep_len (n : Nat) : (Lz.rep n).length = 6 * n := by
  induction n with
  | zero => rfl
  | succ n ih => simp only [Lz.rep, List.length_cons, ih]; omega
theorem Lz.rep_13 (n : Nat) : ∀ c ∈ Lz.rep n, c ≠ 13 := by
  induction n with
  | zero => intro c hc; simp [Lz.rep] at hc
  | succ n ih =>
    intro c hc e
    subst e
    simp only [Lz.rep, List.mem_cons] at hc
    rcases hc with hc | hc | hc | hc | hc | hc | hc
    all_goals first | exact ih _ hc rfl | (revert hc; decide)
theorem Lz.act (r : List UInt8) : Lx.act (46 :: 125 :: 125 :: r) 0 = some ⟨3, [46], false, false⟩ := by kernel_rfl
theorem Lz.go {S : List UInt8} : ∀ (j p n : Nat) (out : List Pc), S.drop p = Lz.rep j → p ≤ S.length → j < n → ∃ ps, Lx.go n S p false out = some (out ++ ps) ∧ ps.length = 2 * j ∧ Lx.long ps = false := by
  intro j
  induction j with
  | zero =>
    intro p n out h hp hn
    refine ⟨[], ?_, rfl, rfl⟩
    rw [Lx.go_end _ _ _ (by have := congrArg List.length h; rw [List.length_drop] at this; simp only [Lz.rep, List.length_nil] at this; omega), List.append_nil]
  | succ j ih =>
    intro p n out h hp hn
    obtain ⟨n, rfl⟩ : ∃ m, n = m + 1 := ⟨n - 1, by omega⟩
    have g1 := Lx.go_at (n := n) (tr := false) (out := out) (S := S) (p := p) (t := [98]) (T := [98]) (m := false) (k := 0) (F := 46 :: 125 :: 125 :: Lz.rep j) h (by decide) (by kernel_rfl) (by kernel_rfl) (Lz.act _) (by simp)
    have hd : S.drop (p + ([98] : List UInt8).length + 2 + 3) = Lz.rep j := by
      rw [show p + ([98] : List UInt8).length + 2 + 3 = p + 6 by simp, ← List.drop_drop, h]
      rfl
    have hl : p + 6 ≤ S.length := by
      have := congrArg List.length h
      rw [List.length_drop, Lz.rep_len] at this
      omega
    obtain ⟨ps, h1, h2, h3⟩ := ih _ n (out ++ Lx.one [98] p ++ [⟨true, [46], p + ([98] : List UInt8).length⟩]) hd (by simpa using hl) (by omega)
    refine ⟨Lx.one [98] p ++ [⟨true, [46], p + ([98] : List UInt8).length⟩] ++ ps, ?_, ?_, ?_⟩
    · refine g1.trans (h1.trans ?_)
      simp only [List.append_assoc]
    · rw [List.length_append, h2]
      show 2 + 2 * j = _
      omega
    · unfold Lx.long at h3 ⊢
      rw [List.any_append, h3]
      rfl
/-- MANY ACTIONS -/
theorem Lz.many {s : ByteArray} {m : Nat} (hm : m ≤ 1000) (hS : s.data.toList = Lz.rep m) : ∃ ps, Lx.split s = (ps, if 1024 < 2 * m then 1302 else 0) ∧ ps.length = if 1024 < 2 * m then 0 else 2 * m := by
  have hl : s.size = 6 * m := by rw [← Wk.len_data, hS, Lz.rep_len]
  unfold Lx.split
  rw [if_neg (by omega), Lx.lines_id (by rw [hS]; exact Lz.rep_13 m)]
  unfold Lx.all
  obtain ⟨ps, h1, h2, h3⟩ := Lz.go (S := s.data.toList) m 0 (s.data.toList.length + 1) [] (by rw [List.drop_zero, hS]) (Nat.zero_le _) (by rw [Wk.len_data]; omega)
  rw [h1, List.nil_append]
  show ∃ qs, Lx.limits ps = _ ∧ _
  unfold Lx.limits
  rw [if_neg (by rw [h3]; decide), h2]
  split
  · exact ⟨[], rfl, rfl⟩
  · exact ⟨ps, rfl, h2⟩
theorem Lz.huge {s : ByteArray} (h : 65536 < s.size) : Lx.split s = ([], 1301) := if_pos h
end Go.Proofs.YtfcmcmokmhklhaaDoor

/-
  THE WALK of stolelaw5.awake.
-/
import Derived.Test.YtjbkgokiikbaeaaGreatDoorTAt
import Derived.Test.YtjbkgokiikbaeaaGreatDoorTAw
import Derived.Test.YtjbkgokiikbaeaaGreatDoorTSame
import Derived.Test.YtjbkgokiikbaeaaGreatDoorTTok2
import Derived.Test.YtjbkgokiikbaeaaGreatDoorTLit
namespace Go.Proofs.YtjbkgokiikbaeaaGreatDoor
open Go.RowKit
theorem Aw.num (a : Int) (w : World) : Calls Tryz.prog 14 #[.int .i64 a] w fun e w' => e = .returned (.int .i64 a) ∧ w' = w := by
  go_enter Tryz.func14, Tryz.ntmps14
  go_wp2
  go_ret
  exact ⟨rfl, rfl⟩
theorem Aw.at1 (w : World) : Calls Tryz.prog 18 #[.string ⟨#[60, 97, 32, 98, 61, 34, 99]⟩] w fun e w' => e = .returned (.agg #[.int .i64 8, .string ⟨#[97]⟩, .bool false, .string ⟨#[98]⟩, .string ⟨#[]⟩, .int .i64 0]) ∧ Below w.heap.size w w' := by
  have h := Aw.at ⟨#[60, 97, 32, 98, 61, 34, 99]⟩ w (by decide)
  rw [show Ts.all (⟨#[60, 97, 32, 98, 61, 34, 99]⟩ : ByteArray).data.toList = ⟨8, ⟨#[97]⟩, false, ⟨#[98]⟩, ⟨#[]⟩, 0⟩ by decide +kernel] at h
  exact h
theorem Aw.at2 (w : World) : Calls Tryz.prog 18 #[.string ⟨#[60, 115, 116, 121, 108, 101, 62, 60, 47, 115, 84]⟩] w fun e w' => e = .returned (.agg #[.int .i64 22, .string ⟨#[]⟩, .bool false, .string ⟨#[]⟩, .string ⟨#[115, 116, 121, 108, 101]⟩, .int .i64 2]) ∧ Below w.heap.size w w' := by
  have h := Aw.at ⟨#[60, 115, 116, 121, 108, 101, 62, 60, 47, 115, 84]⟩ w (by decide)
  rw [show Ts.all (⟨#[60, 115, 116, 121, 108, 101, 62, 60, 47, 115, 84]⟩ : ByteArray).data.toList = ⟨22, ⟨#[]⟩, false, ⟨#[]⟩, ⟨#[115, 116, 121, 108, 101]⟩, 2⟩ by decide +kernel] at h
  exact h
theorem Aw.page (m : Int) (w : World) (hm : w.cell? ⟨0, 0, none⟩ = some (.int .i64 m)) :
    Calls Tryz.prog 11 #[.string ⟨#[97, 60, 80, 32, 120, 61, 39, 49, 39, 32, 88, 61, 50, 32, 121, 62, 98, 38, 108, 116, 59, 60, 98, 114, 47, 62, 60, 47, 112, 62, 60, 33, 45, 45, 99, 45, 45, 62, 60, 116, 105, 116, 108, 101, 62, 60, 47, 116, 105, 116, 60, 47, 84, 73, 84, 76, 69, 62]⟩] w fun e w' => ∃ a d, e = .returned (.tuple #[.slice a 9 d, .int .i64 0]) ∧ Tk.Lies w' (fun k => w.heap.size ≤ k ∧ k < w'.heap.size) Tw.want (.slice a 9 d) ∧ Below w.heap.size w w' := by
  refine (Tk.short ⟨#[97, 60, 80, 32, 120, 61, 39, 49, 39, 32, 88, 61, 50, 32, 121, 62, 98, 38, 108, 116, 59, 60, 98, 114, 47, 62, 60, 47, 112, 62, 60, 33, 45, 45, 99, 45, 45, 62, 60, 116, 105, 116, 108, 101, 62, 60, 47, 116, 105, 116, 60, 47, 84, 73, 84, 76, 69, 62]⟩ m w (by decide) hm).mono ?_
  rintro e w' ⟨v, rfl, hl, hb⟩
  rw [show Rd.tokens ⟨#[97, 60, 80, 32, 120, 61, 39, 49, 39, 32, 88, 61, 50, 32, 121, 62, 98, 38, 108, 116, 59, 60, 98, 114, 47, 62, 60, 47, 112, 62, 60, 33, 45, 45, 99, 45, 45, 62, 60, 116, 105, 116, 108, 101, 62, 60, 47, 116, 105, 116, 60, 47, 84, 73, 84, 76, 69, 62]⟩ = Tw.want from Tw.tokens] at hl
  obtain ⟨a, d, rfl, r⟩ := id hl
  exact ⟨a, d, rfl, hl, hb⟩
/-- a text of zeros -/
theorem Aw.zerosN (n : Nat) (hn : n ≤ 1000000) : ∃ (M : Array Value) (Z : ByteArray), Z.size = n ∧ (∀ u : World, (Instr.makeSlice 43 (.int .i64 (n : Int)) (.int .i64 (n : Int))).run Tryz.prog u = .ok (.slice (some ⟨u.heap.size, 0, none⟩) n n) (u.alloc (.cells M 5))) ∧
    (∀ u : World, (convert 43 9 (.slice (some ⟨u.heap.size, 0, none⟩) n n)).run Tryz.prog (u.alloc (.cells M 5)) = .ok (.string Z) (u.alloc (.cells M 5))) := by
  obtain ⟨i0, hi, hz0, hz1, hz2⟩ := info_parts Wk.info5
  refine ⟨madeCells #[.int .u8 0] n, ⟨(List.replicate n 0).toArray⟩, ?_, fun u => ?_, fun u => ?_⟩
  · rw [← Wk.len_data]
    show (List.replicate n (0 : UInt8)).toArray.toList.length = _
    rw [List.toList_toArray, List.length_replicate]
  · have h := run_make (P := Tryz.prog) u 43 5 i0 (.int .u8 0) Tryz.underlying43 hi hz0 .i64 .i64 (n : Int) (n : Int) (by omega) (Int.le_refl _) (by rw [hz2]; omega) (by omega)
    simpa [hz1, Value.cells] using h
  · have h := run_convert_bytes_back (P := Tryz.prog) (u.alloc (.cells (madeCells #[.int .u8 0] n) 5)) 43 9 5 ⟨u.heap.size, 0, none⟩ n (List.replicate n 0) Tryz.underlying43 Tryz.underlying5 Tryz.underlying9 (fun j hj => by
      rw [Ro.add, Nat.zero_add]
      have hj' : j < n := by simpa using hj
      unfold World.cell?
      rw [show (u.alloc (.cells (madeCells #[.int .u8 0] n) 5)).heap[u.heap.size]? = some _ from heap_alloc_new u _]
      show (madeCells #[.int .u8 0] n)[j]? = _
      rw [← Array.getElem?_toList, toList_madeCells_one, List.getElem?_replicate, if_pos hj', List.getElem_replicate]
      rfl)
    rw [List.length_replicate] at h
    exact h
theorem Aw.zeros : ∃ (M : Array Value) (Z : ByteArray), Z.size = 65537 ∧ (∀ u : World, (Instr.makeSlice 43 (.int .i64 65537) (.int .i64 65537)).run Tryz.prog u = .ok (.slice (some ⟨u.heap.size, 0, none⟩) 65537 65537) (u.alloc (.cells M 5))) ∧
    (∀ u : World, (convert 43 9 (.slice (some ⟨u.heap.size, 0, none⟩) 65537 65537)).run Tryz.prog (u.alloc (.cells M 5)) = .ok (.string Z) (u.alloc (.cells M 5))) := by
  obtain ⟨M, Z, h1, h2, h3⟩ := Aw.zerosN 65537 (by decide)
  exact ⟨M, Z, h1, h2, h3⟩
set_option maxRecDepth 100000 in
set_option maxHeartbeats 8000000 in
theorem Aw.awake (m : Int) (w : World) (hm : w.cell? ⟨0, 0, none⟩ = some (.int .i64 m)) : Calls Tryz.prog 7 #[] w fun e w' => e = .returned (.bool true) ∧ Below w.heap.size w w' := by
  obtain ⟨M, Z, hZ, hmk, hcv⟩ := Aw.zeros
  have hp := Aw.page m w hm
  have hlong := fun u => Tk.long Z u (by omega) (by unfold maxLen; omega)
  go_enter Tryz.func7, Tryz.ntmps7
  go_wp2_with (first | (go_at_call_of 11 Z; refine (hlong _).mono ?_; rintro e w' ⟨rfl, rfl⟩) | (go_at_call 11; refine hp.mono ?_; rintro e w1 ⟨a, d, rfl, hl, hb1⟩; clear hp))
  obtain ⟨W, hW⟩ : ∃ W, w1.alloc (.cells M 5) = W := ⟨_, rfl⟩
  have hbW : Below w.heap.size w W := by rw [← hW]; exact hb1.alloc hb1.size _
  have hlW : Tk.Lies W (· < W.heap.size) Tw.want (.slice a 9 d) := hl.on fun k hk => ⟨by rw [← hW]; simp; omega, by rw [← hW]; exact Below.heap_alloc _ _ _ hk.2⟩
  have hs1 : w1.heap.size + 1 = W.heap.size := by rw [← hW]; simp
  rw [hW, hs1]
  clear hW hl hb1 hmk hcv hlong hm
  generalize hg : W.heap.size = g at *
  obtain ⟨V, hV⟩ : ∃ V, W.alloc (.cells #[.string ⟨#[120]⟩, .string ⟨#[49]⟩, .string ⟨#[121]⟩, .string ⟨#[]⟩] 45) = V := ⟨_, rfl⟩
  have hbV : Below W.heap.size W V := by rw [← hV]; exact (Below.refl _ _).alloc (Nat.le_refl _) _
  have hgV : V.heap[g]? = some (.cells #[.string ⟨#[120]⟩, .string ⟨#[49]⟩, .string ⟨#[121]⟩, .string ⟨#[]⟩] 45) := by rw [← hV, ← hg]; exact heap_alloc_new W _
  have hsV : V.heap.size = g + 1 := by rw [← hV]; simp; omega
  rw [hV]
  clear hV
  have hlV : Tk.Lies V (· < V.heap.size) Tw.want (.slice a 9 d) := hlW.on fun k hk => ⟨Nat.lt_of_lt_of_le (by omega) hbV.size, hbV.block k (by omega)⟩
  have hAt : Ak.Lies V (· < V.heap.size) [(⟨#[120]⟩, ⟨#[49]⟩), (⟨#[121]⟩, Ts.e)] (.slice (some ⟨g, 0, none⟩) 2 2) := Ak.Lies.lit [(⟨#[120]⟩, ⟨#[49]⟩), (⟨#[121]⟩, Ts.e)] _ hgV rfl (by show g < V.heap.size; omega) (by decide)
  have q2 : Below w.heap.size w V := hbW.trans (hbV.mono (by have := hbW.size; omega))
  clear hlW hgV hbV hbW
  generalize hcs : (#[.int .i64 0, .string ⟨#[]⟩, .string ⟨#[97]⟩, .slice none 0 0, .bool false, .int .i64 1, .string ⟨#[112]⟩, .string ⟨#[]⟩, .slice (some ⟨g, 0, none⟩) 2 2, .bool false, .int .i64 0, .string ⟨#[]⟩, .string ⟨#[98, 60]⟩, .slice none 0 0, .bool false, .int .i64 1, .string ⟨#[98, 114]⟩, .string ⟨#[]⟩, .slice none 0 0, .bool true, .int .i64 2, .string ⟨#[112]⟩, .string ⟨#[]⟩, .slice none 0 0, .bool false, .int .i64 3, .string ⟨#[]⟩, .string ⟨#[99]⟩, .slice none 0 0, .bool false, .int .i64 1, .string ⟨#[116, 105, 116, 108, 101]⟩, .string ⟨#[]⟩, .slice none 0 0, .bool false, .int .i64 0, .string ⟨#[]⟩, .string ⟨#[60, 47, 116, 105, 116]⟩, .slice none 0 0, .bool false, .int .i64 2, .string ⟨#[116, 105, 116, 108, 101]⟩, .string ⟨#[]⟩, .slice none 0 0, .bool false] : Array Value) = cs
  have hrows : cs.toList = Tk.rows Tw.want [.slice none 0 0, .slice (some ⟨g, 0, none⟩) 2 2, .slice none 0 0, .slice none 0 0, .slice none 0 0, .slice none 0 0, .slice none 0 0, .slice none 0 0, .slice none 0 0] := by rw [← hcs]; rfl
  clear hcs
  have hbU : Below V.heap.size V (V.alloc (.cells cs 47)) := (Below.refl _ _).alloc (Nat.le_refl _) _
  have hnU : (V.alloc (.cells cs 47)).heap[g + 1]? = some (.cells cs 47) := by rw [← hsV]; exact heap_alloc_new V _
  have hsU : (V.alloc (.cells cs 47)).heap.size = g + 1 + 1 := by simp; omega
  generalize V.alloc (.cells cs 47) = U at *
  have hlU : Tk.Lies U (· < U.heap.size) Tw.want (.slice a 9 d) := hlV.on fun k hk => ⟨by omega, hbU.block k (by omega)⟩
  have hAU : Ak.Lies U (· < U.heap.size) [(⟨#[120]⟩, ⟨#[49]⟩), (⟨#[121]⟩, Ts.e)] (.slice (some ⟨g, 0, none⟩) 2 2) := hAt.on fun k hk => ⟨by omega, hbU.block k (by omega)⟩
  have hwU : Tk.Lies U (· < U.heap.size) Tw.want (.slice (some ⟨g + 1, 0, none⟩) 9 9) := Tk.Lies.lit Tw.want [.slice none 0 0, .slice (some ⟨g, 0, none⟩) 2 2, .slice none 0 0, .slice none 0 0, .slice none 0 0, .slice none 0 0, .slice none 0 0, .slice none 0 0, .slice none 0 0] cs hnU hrows (by show g + 1 < U.heap.size; omega) (by decide) ⟨Ak.Lies.nil _ _, hAU, Ak.Lies.nil _ _, Ak.Lies.nil _ _, Ak.Lies.nil _ _, Ak.Lies.nil _ _, Ak.Lies.nil _ _, Ak.Lies.nil _ _, Ak.Lies.nil _ _, trivial⟩
  have q3 : Below w.heap.size w U := q2.trans (hbU.mono (by have := q2.size; omega))
  clear hlV hAt hAU hrows hbU hnU q2
  refine (Sa.tokens Tw.want _ _ _ _ U hlU hwU).mono ?_
  rintro e w2 ⟨rfl, n2, rfl⟩
  have q4 : Below w.heap.size w (U.drewN n2) := Sa.drews q3 n2
  clear hlU hwU q3
  have t1 := fun u => Aw.at1 u
  have t2 := fun u => Aw.at2 u
  go_wp2_with (first | (go_at_call 14; refine (Aw.num _ _).mono ?_; rintro e w' ⟨rfl, rfl⟩) | (go_at_call 18; refine (t1 _).mono ?_; rintro e w5 ⟨rfl, hb5⟩; have q5 : Below w.heap.size w w5 := q4.trans (hb5.mono q4.size); clear hb5 t1) | (go_at_call 18; refine (t2 _).mono ?_; rintro e w6 ⟨rfl, hb6⟩; have q6 : Below w.heap.size w w6 := q5.trans (hb6.mono q5.size); clear hb6 t2))
  go_ret
  exact ⟨rfl, q6⟩
end Go.Proofs.YtjbkgokiikbaeaaGreatDoor

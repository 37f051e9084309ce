/-
  THE WALK of refs.Decode: it returns what 'Pl.decL' gives of the bytes (texts of up to 2^45 bytes: a Builder's room), and turns nothing that was there.
-/
import Derived.Test.YtjbkgokiikbaeaaGreatDoorRRef
import Derived.Test.YtjbkgokiikbaeaaGreatDoorNorm
import Derived.Deep.RegionWith
import Derived.Deep.Cut
import Derived.Deep.CutRange
namespace Go.Proofs.YtjbkgokiikbaeaaGreatDoor
open Go.RowKit

def Rr.obj : Obj := .cells Rr.table 92 (0, 0)
theorem Rr.ref_at (s : ByteArray) (k a : Nat) (w : World) (q : List UInt8 × Nat) (hq : Pl.refL (s.data.toList.drop (k + 1)) = q) (hn : w.heap[a]? = some Rr.obj) :
    Calls Tryz.prog 102 #[.string (s.extract (k + 1) s.size), .slice (some ⟨a, 0, none⟩) 7 7] w fun e w' => e = .returned (.tuple #[.string ⟨q.1.toArray⟩, .int .i64 (q.2 : Nat)]) ∧ Below w.heap.size w w' := by
  have h := Rr.reference (s.extract (k + 1) s.size) a w hn
  rw [Wk.rest_data, hq] at h
  exact h
/-- a text from a place on -/
theorem Rr.run_from (w : World) (s : ByteArray) (l : Int) (h0 : 0 ≤ l) (h1 : l ≤ s.size) :
    (Instr.slice 9 (.string s) (some (.int .i64 l)) none none).run Tryz.prog w = .ok (.string (s.extract l.toNat s.size)) w := by
  simp [Instr.slice, run_underlying Tryz.underlying9, Instr.sliceBounds, run_sliceBound, h0, h1]
theorem Rr.byte (c : UInt8) : Lib.byteCells [c] = [.int .u8 c.toNat] := rfl

set_option maxRecDepth 100000 in
set_option maxHeartbeats 2000000 in
theorem Rr.decode (s : ByteArray) (w : World) (hs : s.size ≤ 35184372088832) :
    Calls Tryz.prog 81 #[.string s] w fun e w' => e = .returned (.string ⟨(Pl.decL s.data.toList).toArray⟩) ∧ Below w.heap.size w w' := by
  obtain ⟨WA, hWA⟩ : ∃ WA, w.alloc Rr.obj = WA := ⟨_, rfl⟩
  have hsz : WA.heap.size = w.heap.size + 1 := by rw [← hWA]; simp
  have hta : WA.heap[w.heap.size]? = some Rr.obj := by rw [← hWA]; exact heap_alloc_new w _
  have hbA : Below w.heap.size w WA := by rw [← hWA]; exact (Below.refl _ _).alloc (Nat.le_refl _) _
  have c0 := Sh.Builder_Grow_fresh (w.heap.size + 1) (w.heap.size + 1) s.size (WA.alloc (.cells #[.pointer none, .slice none 0 0] 95)) (Nat.le_refl _) (by rw [← hsz]; exact heap_alloc_new WA _) (by simp; omega) (by omega)
  rw [← hWA] at c0
  go_enter Tryz.func81, Tryz.ntmps81
  go_wp2_with fail
  refine c0.mono ?_
  rintro e w0 ⟨rfl, hB0, hb0⟩
  have hbw0 : Below (w.heap.size + 1) WA w0 := by
    rw [hWA] at hb0
    exact ((Below.refl _ _).alloc (by omega) _).trans hb0
  have hI0 : Lib.IsBuilderF 95 5 (w.heap.size + 1) (w.heap.size + 1) (Lib.byteCells []) w0 := .inr (Lib.BuilderAtF.of hB0)
  clear c0 hB0 hb0 hWA
  go_wp2_with fail
  go_loopw [5] (fun i wr => ∃ (k : Nat) (acc : List UInt8), k ≤ s.size ∧ i = .int .i64 k ∧ Lib.IsBuilderF 95 5 (w.heap.size + 1) (w.heap.size + 1) (Lib.byteCells acc) wr ∧ Below (w.heap.size + 1) WA wr ∧ Hid (acc ++ Pl.decL (s.data.toList.drop k) = Pl.decL s.data.toList) ∧ acc.length ≤ 4 * k) (fun i _ => s.size - (intOf i).toNat)
  case atStart => exact ⟨0, [], Nat.zero_le _, rfl, hI0, hbw0, rfl, Nat.le_refl _⟩
  case round =>
    clear hI0 hbw0
    obtain ⟨k, acc, hk, rfl, hI, hb, hn, hal⟩ := hrel
    have hsr := hb.size
    by_cases hlt : k < s.size
    · obtain ⟨c, hc⟩ : ∃ c, s[k] = c := ⟨_, rfl⟩
      have HD : Hid (s.data.toList.drop k = c :: s.data.toList.drop (k + 1)) := by rw [← hc]; exact Rd.drop_cons s k hlt
      have hcn : s[k].toNat = c.toNat := by rw [hc]
      clear hc
      by_cases h38 : c = 38
      · have b0 : ((c.toNat : Int) == 38) = true := by rw [h38]; rfl
        have H38 : Hid (c = 38) := h38
        clear h38
        obtain ⟨q, hq⟩ : ∃ q, Pl.refL (s.data.toList.drop (k + 1)) = q := ⟨_, rfl⟩
        have cr : ∀ u : World, Below wr.heap.size wr u → Calls Tryz.prog 102 #[.string (s.extract (k + 1) s.size), .slice (some ⟨w.heap.size, 0, none⟩) 7 7] u fun e w' => e = .returned (.tuple #[.string ⟨q.1.toArray⟩, .int .i64 (q.2 : Nat)]) ∧ Below u.heap.size u w' :=
          fun u hu => Rr.ref_at s k w.heap.size u q hq ((hu.block _ (by omega)).trans ((hb.block _ (by omega)).trans hta))
        have HQ : Hid (Pl.refL (s.data.toList.drop (k + 1)) = q) := hq
        clear hq
        have hwr : IntKind.i64.wrap ((k : Int) + 1) = (k : Int) + 1 := by rw [IntKind.wrap_i64]; omega
        have hcut : ∀ u : World, (Instr.slice 9 (.string s) (some (.int .i64 ((k : Int) + 1))) none none).run Tryz.prog u = .ok (.string (s.extract (k + 1) s.size)) u := fun u => by
          have h := Rr.run_from u s ((k : Int) + 1) (by omega) (by omega)
          rwa [show ((k : Int) + 1).toNat = k + 1 by omega] at h
        go_wp2_with fail
        go_cut [6, 7] from 19 to 49 (fun sg nn wx => sg = .string ⟨q.1.toArray⟩ ∧ nn = .int .i64 (q.2 : Nat) ∧ Below wr.heap.size wr wx)
        case first =>
          go_region_with (go_at_call 102; refine (cr _ (Below.refl _ _).drew).mono ?_; rintro e w1 ⟨rfl, hb1⟩)
          all_goals (try go_wp2_with fail)
          all_goals go_meet
          all_goals exact ⟨rfl, rfl, ⟨hb1.os, hb1.tape, hb1.output, hb1.size, hb1.block⟩⟩
        case rest =>
          obtain ⟨rfl, rfl, hb1⟩ := hcut
          clear cr hwr
          have hle := Pl.refL_le (s.data.toList.drop (k + 1))
          have hsg := Pl.refL_sign (s.data.toList.drop (k + 1))
          rw [HQ.out, List.length_drop, Wk.len_data] at hle
          rw [HQ.out] at hsg
          have hI1 := Wk.isF_below hI hb1
          have hbB : Below (w.heap.size + 1) WA wc := hb.trans (hb1.mono (by omega))
          have hsc := hbB.size
          by_cases hz : q.2 = 0
          · have z0 : ((q.2 : Int) == 0) = true := beq_iff_eq.2 (by omega)
            have HZ : Hid (q.2 = 0) := hz
            clear hz
            go_wp2_with fail
            refine (Sh.Builder_WriteByte_k (w.heap.size + 1) (w.heap.size + 1) _ _ wc hI1 (by rw [Lib.byteCells_length]; omega) (by omega)).mono ?_
            rintro e w2 ⟨rfl, hI2, hb2, _⟩
            have hb' : Below (w.heap.size + 1) WA w2 := hbB.trans hb2
            have hI' : Lib.IsBuilderF 95 5 (w.heap.size + 1) (w.heap.size + 1) (Lib.byteCells (acc ++ [c])) w2 := by
              rw [Lib.byteCells_append]; exact .inr hI2
            have HN : Hid ((acc ++ [c]) ++ Pl.decL (s.data.toList.drop (k + 1)) = Pl.decL s.data.toList) := by
              show _ = _
              rw [← hn.out, HD.out, Pl.decL_none c _ (by rw [HQ.out]; exact HZ.out)]
              simp
            clear hI hI1 hI2 hb1 hb2 hn HD HQ HZ H38 hb hbB
            go_wp2
            go_roundw
            case rel => exact ⟨k + 1, acc ++ [c], by omega, by go_num, hI', hb', HN, by simp; omega⟩
            case measure => simp [intOf]; omega
          · have z0 : ((q.2 : Int) == 0) = false := beq_eq_false_iff_ne.2 (by omega)
            have hps : (⟨q.1.toArray⟩ : ByteArray).size = q.1.length := by rw [← Wk.len_data]
            go_wp2_with fail
            refine (Sh.Builder_WriteString_k (w.heap.size + 1) (w.heap.size + 1) _ _ wc hI1 (by rw [Lib.byteCells_length, hps]; omega) (by omega)).mono ?_
            rintro e w2 ⟨rfl, hI2, hb2, _⟩
            have hb' : Below (w.heap.size + 1) WA w2 := hbB.trans hb2
            have hI' : Lib.IsBuilderF 95 5 (w.heap.size + 1) (w.heap.size + 1) (Lib.byteCells (acc ++ q.1)) w2 := by
              rw [Lib.byteCells_append]; exact .inr hI2
            have HN : Hid ((acc ++ q.1) ++ Pl.decL (s.data.toList.drop (k + (1 + q.2))) = Pl.decL s.data.toList) := by
              show _ = _
              rw [← hn.out, HD.out, Pl.decL_ref c _ H38.out (by rw [HQ.out]; exact hz), HQ.out, List.drop_drop, List.append_assoc, Nat.add_assoc]
            clear hI hI1 hI2 hb1 hb2 hn HD HQ H38 hb hbB
            go_wp2
            go_roundw
            case rel => exact ⟨k + (1 + q.2), acc ++ q.1, by omega, by go_num, hI', hb', HN, by simp; omega⟩
            case measure => simp [intOf]; omega
      · have b0 : ((c.toNat : Int) == 38) = false := beq_eq_false_iff_ne.2 (fun e => h38 (UInt8.toNat_inj.1 (by simpa using (by omega : c.toNat = 38))))
        go_wp2_with fail
        refine (Sh.Builder_WriteByte_k (w.heap.size + 1) (w.heap.size + 1) _ _ wr hI (by rw [Lib.byteCells_length]; omega) (by omega)).mono ?_
        rintro e w2 ⟨rfl, hI2, hb2, _⟩
        have hb' : Below (w.heap.size + 1) WA w2 := hb.trans hb2
        have hI' : Lib.IsBuilderF 95 5 (w.heap.size + 1) (w.heap.size + 1) (Lib.byteCells (acc ++ [c])) w2 := by
          rw [Lib.byteCells_append]; exact .inr hI2
        have HN : Hid ((acc ++ [c]) ++ Pl.decL (s.data.toList.drop (k + 1)) = Pl.decL s.data.toList) := by
          show _ = _
          rw [← hn.out, HD.out, Pl.decL_other c _ h38]
          simp
        clear hI hI2 hb2 hn HD hb
        go_wp2
        go_roundw
        case rel => exact ⟨k + 1, acc ++ [c], by omega, by go_num, hI', hb', HN, by simp; omega⟩
        case measure => simp [intOf]; omega
    · have hke : k = s.size := by omega
      have HE : Hid (acc = Pl.decL s.data.toList) := by
        have := hn.out
        rw [hke, List.drop_of_length_le (by rw [Wk.len_data]; exact Nat.le_refl _), Pl.decL_nil, List.append_nil] at this
        exact this
      clear hke
      go_wp2_with fail
      refine (Sh.Builder_String_any_k (w.heap.size + 1) (w.heap.size + 1) acc _ hI (by omega)).mono ?_
      rintro e w1 ⟨rfl, _, hb1, _⟩
      go_wp2
      go_ret
      exact ⟨Wk.ret_str HE.out, hbA.trans ((hb.trans hb1).mono (by omega))⟩
end Go.Proofs.YtjbkgokiikbaeaaGreatDoor

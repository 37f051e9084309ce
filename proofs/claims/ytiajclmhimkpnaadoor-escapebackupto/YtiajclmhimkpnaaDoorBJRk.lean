/-
  THE WALK of the landed reader's list: its part.
-/
import Derived.Test.YtiajclmhimkpnaaDoorBJRk0
namespace Go.Proofs.YtiajclmhimkpnaaDoor
open Go.RowKit
set_option maxRecDepth 100000 in
set_option maxHeartbeats 4000000 in
theorem Jr.listPart (d e : Nat) (he : e ≤ 8) (g : Nat) (T : ByteArray) (hV : Jr.Val d e g T) (w : World) (s : Jr.St) (l : List UInt8) (u : World) (hn : s.2.length ≤ 65536) (hR : Jr.Rd u g T l) (vi vk : Value) (hM : Jr.Mem w g e 5 s vi vk u) :
    Calls Tryd.prog 55 #[.pointer (some ⟨w.heap.size + 1 + 1 + 1, 0, none⟩), .pointer (some ⟨w.heap.size, 0, none⟩), .pointer (some ⟨w.heap.size + 1, 0, none⟩)] u (Jr.ROut (Jr.part (Jr.value d) false s l) (fun s u => ∃ vi vk, Jr.Mem w g e 5 s vi vk u) w g T) := by
  have hpart : Jr.part (Jr.value d) false s l = (Jr.value d l).map fun p => ((s.1, s.2 ++ [p.1]), p.2) := by
    unfold Jr.part Jr.key
    rw [if_neg Bool.false_ne_true]
    simp only
    cases Jr.value d l <;> simp
  rw [hpart]
  have hvi : ∃ ai ci, vi = .slice ai s.2.length ci := by
    obtain ⟨xs, hx, -⟩ := hM.items
    obtain ⟨a, dd, e1, -⟩ := Vc.row_form hx
    exact ⟨a, dd, e1⟩
  obtain ⟨ai, ci, rfl⟩ := hvi
  have HV := Lib.hid (hV l)
  have HM := Lib.hid (hM.still (Jr.grown_some (Jr.grown_drew u) (some g)))
  have HR := Lib.hid (hR.on (Jr.grown_drew u))
  have hS0 : u.drew.cell? ⟨w.heap.size, 0, none⟩ = some (.pointer (some ⟨g, 0, none⟩)) ∧ u.drew.cell? ⟨w.heap.size + 1, 0, none⟩ = some (.int .i64 (e : Int)) := ⟨HM.out.rp.cell 0 rfl, HM.out.dp.cell 0 rfl⟩
  have ew : IntKind.i64.wrap ((e : Int) + 1) = (e : Int) + 1 := by rw [IntKind.wrap_i64]; omega
  clear hV hR hM hpart
  cases hval : Jr.value d l with
  | none =>
    rw [hval] at HV
    clear hval
    go_enter Tryd.func55, Tryd.ntmps55
    refine wp_region_held_drew (S := (fun r => r.cell? ⟨w.heap.size, 0, none⟩ = some (.pointer (some ⟨g, 0, none⟩)) ∧ r.cell? ⟨w.heap.size + 1, 0, none⟩ = some (.int .i64 (e : Int)))) (by kernel_rfl) hS0 (fun hHeld => ?_)
    clear hS0
    generalize u.drew = v0 at *
    refine wpAnyH_take (i := 0) (v := .pointer (some ⟨w.heap.size + 1 + 1 + 1, 4, none⟩)) rfl (by kernel_rfl) (by kernel_rfl) (by kernel_rfl) (fun _ _ _ h => h) (Or.inl ⟨by rfl, ?_⟩) (by assumption) ?_
    · intro w9 hSw
      go_simp
    simp only [Act.put]
    refine wpAnyH_take (i := 2) (v := .pointer (some ⟨g, 0, none⟩)) rfl (by kernel_rfl) (by kernel_rfl) (by kernel_rfl) (fun _ _ _ h => h) (Or.inl ⟨by rfl, ?_⟩) (by assumption) ?_
    · intro w9 hSw
      go_simp
    simp only [Act.put]
    refine wpAnyH_take (i := 3) (v := .int .i64 (e : Int)) rfl (by kernel_rfl) (by kernel_rfl) (by kernel_rfl) (fun _ _ _ h => h) (Or.inl ⟨by rfl, ?_⟩) (by assumption) ?_
    · intro w9 hSw
      go_simp
    simp only [Act.put]
    refine wpAnyH_take (i := 4) (v := .int .i64 ((e : Int) + 1)) rfl (by kernel_rfl) (by kernel_rfl) (by kernel_rfl) (fun _ _ _ h => h) (Or.inl ⟨by rfl, ?_⟩) (by assumption) ?_
    · intro w9 hSw
      go_simp
    simp only [Act.put]
    refine wpAnyH_ready (rs := [1, 5, 7]) (by kernel_rfl) (by simp) ?_
    refine (AllReadyH.cons rfl (fun K hK => ?_) (AllReadyH.cons rfl (fun K hK => ?_) (AllReadyH.cons rfl (fun K hK => ?_) AllReadyH.nil)))
    · have c4 := HM.out.var.cells.2.2.2.2.1
      go_simp
      refine hK.out _ _ ⟨HM.out.rp.cell 0 rfl, HM.out.dp.cell 0 rfl⟩ (fun hHeld => ?_)
      clear hK K c4
      refine wpAnyH_take (i := 6) (v := .int .i64 (s.2.length : Int)) rfl (by kernel_rfl) (by kernel_rfl) (by kernel_rfl) (fun _ _ _ h => h) (Or.inl ⟨by rfl, ?_⟩) (by assumption) ?_
      · intro w9 hSw
        go_simp
      simp only [Act.put]
      refine wpAnyH_ready (rs := [5, 7]) (by kernel_rfl) (by simp) ?_
      refine (AllReadyH.cons rfl (fun K hK => ?_) (AllReadyH.cons rfl (fun K hK => ?_) AllReadyH.nil))
      · go_simp
        refine (HV.out _ HR.out).mono ?_
        rintro e' w3 ⟨rfl, b3⟩
        exact ⟨rfl, rfl, Jr.grown_trans HM.out.grown b3⟩
      · have HM7 := Lib.hid (HM.out.still (Jr.grown_some (World.grownBy_alloc v0 (.cells #[.int .i64 0, .int .i64 0, .int .u64 0, .string ⟨#[]⟩, .slice none 0 0, .slice none 0 0] 29) none) (some g)))
        have HR7 := Lib.hid (HR.out.on (World.grownBy_alloc v0 (.cells #[.int .i64 0, .int .i64 0, .int .u64 0, .string ⟨#[]⟩, .slice none 0 0, .slice none 0 0] 29) none))
        have HZ := Lib.hid (Vm.Has.new v0 (.cells #[.int .i64 0, .int .i64 0, .int .u64 0, .string ⟨#[]⟩, .slice none 0 0, .slice none 0 0] 29) _ rfl)
        have HG1 : Hid (w.heap.size + 4 ≤ v0.heap.size) := HM.out.size
        go_simp
        refine hK.out _ _ ⟨HM7.out.rp.cell 0 rfl, HM7.out.dp.cell 0 rfl⟩ (fun hHeld => ?_)
        clear hK K HM HR
        generalize v0.alloc (.cells #[.int .i64 0, .int .i64 0, .int .u64 0, .string ⟨#[]⟩, .slice none 0 0, .slice none 0 0] 29) = w7 at *
        generalize v0.heap.size = g1 at *
        rename Hid (Jr.Mem _ _ _ _ _ _ _ _) => HM
        rename Hid (Jr.Rd _ _ _ _) => HR
        refine wpAnyH_ready (rs := [5]) (by kernel_rfl) (by simp) ?_
        refine (AllReadyH.cons rfl (fun K hK => ?_) AllReadyH.nil)
        · go_simp
          refine (HV.out _ HR.out).mono ?_
          rintro e' w3 ⟨rfl, b3⟩
          exact ⟨rfl, rfl, Jr.grown_trans HM.out.grown b3⟩
    · go_simp
      refine (HV.out _ HR.out).mono ?_
      rintro e' w3 ⟨rfl, b3⟩
      exact ⟨rfl, rfl, Jr.grown_trans HM.out.grown b3⟩
    · have HM7 := Lib.hid (HM.out.still (Jr.grown_some (World.grownBy_alloc v0 (.cells #[.int .i64 0, .int .i64 0, .int .u64 0, .string ⟨#[]⟩, .slice none 0 0, .slice none 0 0] 29) none) (some g)))
      have HR7 := Lib.hid (HR.out.on (World.grownBy_alloc v0 (.cells #[.int .i64 0, .int .i64 0, .int .u64 0, .string ⟨#[]⟩, .slice none 0 0, .slice none 0 0] 29) none))
      have HZ := Lib.hid (Vm.Has.new v0 (.cells #[.int .i64 0, .int .i64 0, .int .u64 0, .string ⟨#[]⟩, .slice none 0 0, .slice none 0 0] 29) _ rfl)
      have HG1 : Hid (w.heap.size + 4 ≤ v0.heap.size) := HM.out.size
      go_simp
      refine hK.out _ _ ⟨HM7.out.rp.cell 0 rfl, HM7.out.dp.cell 0 rfl⟩ (fun hHeld => ?_)
      clear hK K HM HR
      generalize v0.alloc (.cells #[.int .i64 0, .int .i64 0, .int .u64 0, .string ⟨#[]⟩, .slice none 0 0, .slice none 0 0] 29) = w7 at *
      generalize v0.heap.size = g1 at *
      rename Hid (Jr.Mem _ _ _ _ _ _ _ _) => HM
      rename Hid (Jr.Rd _ _ _ _) => HR
      refine wpAnyH_ready (rs := [1, 5]) (by kernel_rfl) (by simp) ?_
      refine (AllReadyH.cons rfl (fun K hK => ?_) (AllReadyH.cons rfl (fun K hK => ?_) AllReadyH.nil))
      · have c4 := HM.out.var.cells.2.2.2.2.1
        go_simp
        refine hK.out _ _ ⟨HM.out.rp.cell 0 rfl, HM.out.dp.cell 0 rfl⟩ (fun hHeld => ?_)
        clear hK K c4
        refine wpAnyH_take (i := 6) (v := .int .i64 (s.2.length : Int)) rfl (by kernel_rfl) (by kernel_rfl) (by kernel_rfl) (fun _ _ _ h => h) (Or.inl ⟨by rfl, ?_⟩) (by assumption) ?_
        · intro w9 hSw
          go_simp
        simp only [Act.put]
        refine wpAnyH_ready (rs := [5]) (by kernel_rfl) (by simp) ?_
        refine (AllReadyH.cons rfl (fun K hK => ?_) AllReadyH.nil)
        · go_simp
          refine (HV.out _ HR.out).mono ?_
          rintro e' w3 ⟨rfl, b3⟩
          exact ⟨rfl, rfl, Jr.grown_trans HM.out.grown b3⟩
      · go_simp
        refine (HV.out _ HR.out).mono ?_
        rintro e' w3 ⟨rfl, b3⟩
        exact ⟨rfl, rfl, Jr.grown_trans HM.out.grown b3⟩
  | some p =>
    obtain ⟨t, r⟩ := p
    rw [hval] at HV
    clear hval
    go_enter Tryd.func55, Tryd.ntmps55
    refine wp_region_held_drew (S := (fun r => r.cell? ⟨w.heap.size, 0, none⟩ = some (.pointer (some ⟨g, 0, none⟩)) ∧ r.cell? ⟨w.heap.size + 1, 0, none⟩ = some (.int .i64 (e : Int)))) (by kernel_rfl) hS0 (fun hHeld => ?_)
    clear hS0
    generalize u.drew = v0 at *
    refine wpAnyH_take (i := 0) (v := .pointer (some ⟨w.heap.size + 1 + 1 + 1, 4, none⟩)) rfl (by kernel_rfl) (by kernel_rfl) (by kernel_rfl) (fun _ _ _ h => h) (Or.inl ⟨by rfl, ?_⟩) (by assumption) ?_
    · intro w9 hSw
      go_simp
    simp only [Act.put]
    refine wpAnyH_take (i := 2) (v := .pointer (some ⟨g, 0, none⟩)) rfl (by kernel_rfl) (by kernel_rfl) (by kernel_rfl) (fun _ _ _ h => h) (Or.inl ⟨by rfl, ?_⟩) (by assumption) ?_
    · intro w9 hSw
      go_simp
    simp only [Act.put]
    refine wpAnyH_take (i := 3) (v := .int .i64 (e : Int)) rfl (by kernel_rfl) (by kernel_rfl) (by kernel_rfl) (fun _ _ _ h => h) (Or.inl ⟨by rfl, ?_⟩) (by assumption) ?_
    · intro w9 hSw
      go_simp
    simp only [Act.put]
    refine wpAnyH_take (i := 4) (v := .int .i64 ((e : Int) + 1)) rfl (by kernel_rfl) (by kernel_rfl) (by kernel_rfl) (fun _ _ _ h => h) (Or.inl ⟨by rfl, ?_⟩) (by assumption) ?_
    · intro w9 hSw
      go_simp
    simp only [Act.put]
    apply Jr.share (F := (fun x g1 k3 x3 y3 s3 ai3 n3 c3 ak3 m3 d3 => Jr.Mem w g e 5 s (.slice ai s.2.length ci) vk x ∧ Jr.Rd x g T r ∧ Vm.Has x g1 (.cells #[.int .i64 0, .int .i64 0, .int .u64 0, .string ⟨#[]⟩, .slice none 0 0, .slice none 0 0] 29) ∧ t.Lies x (Jr.Free (w.heap.size + 4) (.slice ai s.2.length ci) vk x) (.agg #[.int .i64 k3, .int .i64 x3, .int .u64 (y3 : Int), .string s3, .slice ai3 n3 c3, .slice ak3 m3 d3])))
    case h1 =>
      intro fin
      refine wpAnyH_ready (rs := [1, 5, 7]) (by kernel_rfl) (by simp) ?_
      refine (AllReadyH.cons rfl (fun K hK => ?_) (AllReadyH.cons rfl (fun K hK => ?_) (AllReadyH.cons rfl (fun K hK => ?_) AllReadyH.nil)))
      · have c4 := HM.out.var.cells.2.2.2.2.1
        go_simp
        refine hK.out _ _ ⟨HM.out.rp.cell 0 rfl, HM.out.dp.cell 0 rfl⟩ (fun hHeld => ?_)
        clear hK K c4
        refine wpAnyH_take (i := 6) (v := .int .i64 (s.2.length : Int)) rfl (by kernel_rfl) (by kernel_rfl) (by kernel_rfl) (fun _ _ _ h => h) (Or.inl ⟨by rfl, ?_⟩) (by assumption) ?_
        · intro w9 hSw
          go_simp
        simp only [Act.put]
        refine wpAnyH_ready (rs := [5, 7]) (by kernel_rfl) (by simp) ?_
        refine (AllReadyH.cons rfl (fun K hK => ?_) (AllReadyH.cons rfl (fun K hK => ?_) AllReadyH.nil))
        · go_simp
          refine (HV.out _ HR.out).mono ?_
          rintro e' w3 ⟨val, rfl, hl3, b3, q3⟩
          have HM3 := Lib.hid (HM.out.still b3)
          have HT := Lib.hid (HM.out.newTree hl3)
          obtain ⟨k3, x3, y3, s3, ai3, n3, c3, ak3, m3, d3, rfl⟩ := hl3.form
          replace HR := Lib.hid q3
          replace HM := HM3
          refine hK.out _ _ ⟨HM.out.rp.cell 0 rfl, HM.out.dp.cell 0 rfl⟩ (fun hHeld => ?_)
          clear hK K hl3 b3 q3 HM3
          refine wpAnyH_ready (rs := [7]) (by kernel_rfl) (by simp) ?_
          refine (AllReadyH.cons rfl (fun K hK => ?_) AllReadyH.nil)
          · have HM7 := Lib.hid (HM.out.still (Jr.grown_some (World.grownBy_alloc w3 (.cells #[.int .i64 0, .int .i64 0, .int .u64 0, .string ⟨#[]⟩, .slice none 0 0, .slice none 0 0] 29) none) (some g)))
            have HR7 := Lib.hid (HR.out.on (World.grownBy_alloc w3 (.cells #[.int .i64 0, .int .i64 0, .int .u64 0, .string ⟨#[]⟩, .slice none 0 0, .slice none 0 0] 29) none))
            have HZ := Lib.hid (Vm.Has.new w3 (.cells #[.int .i64 0, .int .i64 0, .int .u64 0, .string ⟨#[]⟩, .slice none 0 0, .slice none 0 0] 29) _ rfl)
            have HG1 : Hid (w.heap.size + 4 ≤ w3.heap.size) := HM.out.size
            have HT7 := Lib.hid (Jr.freeAlloc HT.out (.cells #[.int .i64 0, .int .i64 0, .int .u64 0, .string ⟨#[]⟩, .slice none 0 0, .slice none 0 0] 29))
            go_simp
            refine hK.out _ _ ⟨HM7.out.rp.cell 0 rfl, HM7.out.dp.cell 0 rfl⟩ (fun hHeld => ?_)
            clear hK K HM HR HT
            generalize w3.alloc (.cells #[.int .i64 0, .int .i64 0, .int .u64 0, .string ⟨#[]⟩, .slice none 0 0, .slice none 0 0] 29) = w7 at *
            generalize w3.heap.size = g1 at *
            rename Hid (Jr.Mem _ _ _ _ _ _ _ _) => HM
            rename Hid (Jr.Rd _ _ _ _) => HR
            rename Hid (Vt.Lies _ _ _ _) => HT
            refine Jr.listed (L := #[true, true, true, true, true, true, true, true, false, false, false, false, false]) (by kernel_rfl) ?_
            exact fin _ _ _ _ _ _ _ _ _ _ _ _ ⟨HM.out, HR.out, HZ.out, HT.out⟩
        · have HM7 := Lib.hid (HM.out.still (Jr.grown_some (World.grownBy_alloc v0 (.cells #[.int .i64 0, .int .i64 0, .int .u64 0, .string ⟨#[]⟩, .slice none 0 0, .slice none 0 0] 29) none) (some g)))
          have HR7 := Lib.hid (HR.out.on (World.grownBy_alloc v0 (.cells #[.int .i64 0, .int .i64 0, .int .u64 0, .string ⟨#[]⟩, .slice none 0 0, .slice none 0 0] 29) none))
          have HZ := Lib.hid (Vm.Has.new v0 (.cells #[.int .i64 0, .int .i64 0, .int .u64 0, .string ⟨#[]⟩, .slice none 0 0, .slice none 0 0] 29) _ rfl)
          have HG1 : Hid (w.heap.size + 4 ≤ v0.heap.size) := HM.out.size
          go_simp
          refine hK.out _ _ ⟨HM7.out.rp.cell 0 rfl, HM7.out.dp.cell 0 rfl⟩ (fun hHeld => ?_)
          clear hK K HM HR
          generalize v0.alloc (.cells #[.int .i64 0, .int .i64 0, .int .u64 0, .string ⟨#[]⟩, .slice none 0 0, .slice none 0 0] 29) = w7 at *
          generalize v0.heap.size = g1 at *
          rename Hid (Jr.Mem _ _ _ _ _ _ _ _) => HM
          rename Hid (Jr.Rd _ _ _ _) => HR
          refine wpAnyH_ready (rs := [5]) (by kernel_rfl) (by simp) ?_
          refine (AllReadyH.cons rfl (fun K hK => ?_) AllReadyH.nil)
          · go_simp
            refine (HV.out _ HR.out).mono ?_
            rintro e' w3 ⟨val, rfl, hl3, b3, q3⟩
            have HM3 := Lib.hid (HM.out.still b3)
            have HT := Lib.hid (HM.out.newTree hl3)
            have HZ3 := Lib.hid (Jr.hasG HZ.out b3 (by have := HG1.out; have := HM.out.glt; omega))
            obtain ⟨k3, x3, y3, s3, ai3, n3, c3, ak3, m3, d3, rfl⟩ := hl3.form
            replace HR := Lib.hid q3
            replace HM := HM3
            replace HZ := HZ3
            refine hK.out _ _ ⟨HM.out.rp.cell 0 rfl, HM.out.dp.cell 0 rfl⟩ (fun hHeld => ?_)
            clear hK K hl3 b3 q3 HM3 HZ3
            refine Jr.listed (L := #[true, true, true, true, true, true, true, true, false, false, false, false, false]) (by kernel_rfl) ?_
            exact fin _ _ _ _ _ _ _ _ _ _ _ _ ⟨HM.out, HR.out, HZ.out, HT.out⟩
      · go_simp
        refine (HV.out _ HR.out).mono ?_
        rintro e' w3 ⟨val, rfl, hl3, b3, q3⟩
        have HM3 := Lib.hid (HM.out.still b3)
        have HT := Lib.hid (HM.out.newTree hl3)
        obtain ⟨k3, x3, y3, s3, ai3, n3, c3, ak3, m3, d3, rfl⟩ := hl3.form
        replace HR := Lib.hid q3
        replace HM := HM3
        refine hK.out _ _ ⟨HM.out.rp.cell 0 rfl, HM.out.dp.cell 0 rfl⟩ (fun hHeld => ?_)
        clear hK K hl3 b3 q3 HM3
        refine wpAnyH_ready (rs := [1, 7]) (by kernel_rfl) (by simp) ?_
        refine (AllReadyH.cons rfl (fun K hK => ?_) (AllReadyH.cons rfl (fun K hK => ?_) AllReadyH.nil))
        · have c4 := HM.out.var.cells.2.2.2.2.1
          go_simp
          refine hK.out _ _ ⟨HM.out.rp.cell 0 rfl, HM.out.dp.cell 0 rfl⟩ (fun hHeld => ?_)
          clear hK K c4
          refine wpAnyH_take (i := 6) (v := .int .i64 (s.2.length : Int)) rfl (by kernel_rfl) (by kernel_rfl) (by kernel_rfl) (fun _ _ _ h => h) (Or.inl ⟨by rfl, ?_⟩) (by assumption) ?_
          · intro w9 hSw
            go_simp
          simp only [Act.put]
          refine wpAnyH_ready (rs := [7]) (by kernel_rfl) (by simp) ?_
          refine (AllReadyH.cons rfl (fun K hK => ?_) AllReadyH.nil)
          · have HM7 := Lib.hid (HM.out.still (Jr.grown_some (World.grownBy_alloc w3 (.cells #[.int .i64 0, .int .i64 0, .int .u64 0, .string ⟨#[]⟩, .slice none 0 0, .slice none 0 0] 29) none) (some g)))
            have HR7 := Lib.hid (HR.out.on (World.grownBy_alloc w3 (.cells #[.int .i64 0, .int .i64 0, .int .u64 0, .string ⟨#[]⟩, .slice none 0 0, .slice none 0 0] 29) none))
            have HZ := Lib.hid (Vm.Has.new w3 (.cells #[.int .i64 0, .int .i64 0, .int .u64 0, .string ⟨#[]⟩, .slice none 0 0, .slice none 0 0] 29) _ rfl)
            have HG1 : Hid (w.heap.size + 4 ≤ w3.heap.size) := HM.out.size
            have HT7 := Lib.hid (Jr.freeAlloc HT.out (.cells #[.int .i64 0, .int .i64 0, .int .u64 0, .string ⟨#[]⟩, .slice none 0 0, .slice none 0 0] 29))
            go_simp
            refine hK.out _ _ ⟨HM7.out.rp.cell 0 rfl, HM7.out.dp.cell 0 rfl⟩ (fun hHeld => ?_)
            clear hK K HM HR HT
            generalize w3.alloc (.cells #[.int .i64 0, .int .i64 0, .int .u64 0, .string ⟨#[]⟩, .slice none 0 0, .slice none 0 0] 29) = w7 at *
            generalize w3.heap.size = g1 at *
            rename Hid (Jr.Mem _ _ _ _ _ _ _ _) => HM
            rename Hid (Jr.Rd _ _ _ _) => HR
            rename Hid (Vt.Lies _ _ _ _) => HT
            refine Jr.listed (L := #[true, true, true, true, true, true, true, true, false, false, false, false, false]) (by kernel_rfl) ?_
            exact fin _ _ _ _ _ _ _ _ _ _ _ _ ⟨HM.out, HR.out, HZ.out, HT.out⟩
        · have HM7 := Lib.hid (HM.out.still (Jr.grown_some (World.grownBy_alloc w3 (.cells #[.int .i64 0, .int .i64 0, .int .u64 0, .string ⟨#[]⟩, .slice none 0 0, .slice none 0 0] 29) none) (some g)))
          have HR7 := Lib.hid (HR.out.on (World.grownBy_alloc w3 (.cells #[.int .i64 0, .int .i64 0, .int .u64 0, .string ⟨#[]⟩, .slice none 0 0, .slice none 0 0] 29) none))
          have HZ := Lib.hid (Vm.Has.new w3 (.cells #[.int .i64 0, .int .i64 0, .int .u64 0, .string ⟨#[]⟩, .slice none 0 0, .slice none 0 0] 29) _ rfl)
          have HG1 : Hid (w.heap.size + 4 ≤ w3.heap.size) := HM.out.size
          have HT7 := Lib.hid (Jr.freeAlloc HT.out (.cells #[.int .i64 0, .int .i64 0, .int .u64 0, .string ⟨#[]⟩, .slice none 0 0, .slice none 0 0] 29))
          go_simp
          refine hK.out _ _ ⟨HM7.out.rp.cell 0 rfl, HM7.out.dp.cell 0 rfl⟩ (fun hHeld => ?_)
          clear hK K HM HR HT
          generalize w3.alloc (.cells #[.int .i64 0, .int .i64 0, .int .u64 0, .string ⟨#[]⟩, .slice none 0 0, .slice none 0 0] 29) = w7 at *
          generalize w3.heap.size = g1 at *
          rename Hid (Jr.Mem _ _ _ _ _ _ _ _) => HM
          rename Hid (Jr.Rd _ _ _ _) => HR
          rename Hid (Vt.Lies _ _ _ _) => HT
          refine wpAnyH_ready (rs := [1]) (by kernel_rfl) (by simp) ?_
          refine (AllReadyH.cons rfl (fun K hK => ?_) AllReadyH.nil)
          · have c4 := HM.out.var.cells.2.2.2.2.1
            go_simp
            refine hK.out _ _ ⟨HM.out.rp.cell 0 rfl, HM.out.dp.cell 0 rfl⟩ (fun hHeld => ?_)
            clear hK K c4
            refine wpAnyH_take (i := 6) (v := .int .i64 (s.2.length : Int)) rfl (by kernel_rfl) (by kernel_rfl) (by kernel_rfl) (fun _ _ _ h => h) (Or.inl ⟨by rfl, ?_⟩) (by assumption) ?_
            · intro w9 hSw
              go_simp
            simp only [Act.put]
            refine Jr.listed (L := #[true, true, true, true, true, true, true, true, false, false, false, false, false]) (by kernel_rfl) ?_
            exact fin _ _ _ _ _ _ _ _ _ _ _ _ ⟨HM.out, HR.out, HZ.out, HT.out⟩
      · have HM7 := Lib.hid (HM.out.still (Jr.grown_some (World.grownBy_alloc v0 (.cells #[.int .i64 0, .int .i64 0, .int .u64 0, .string ⟨#[]⟩, .slice none 0 0, .slice none 0 0] 29) none) (some g)))
        have HR7 := Lib.hid (HR.out.on (World.grownBy_alloc v0 (.cells #[.int .i64 0, .int .i64 0, .int .u64 0, .string ⟨#[]⟩, .slice none 0 0, .slice none 0 0] 29) none))
        have HZ := Lib.hid (Vm.Has.new v0 (.cells #[.int .i64 0, .int .i64 0, .int .u64 0, .string ⟨#[]⟩, .slice none 0 0, .slice none 0 0] 29) _ rfl)
        have HG1 : Hid (w.heap.size + 4 ≤ v0.heap.size) := HM.out.size
        go_simp
        refine hK.out _ _ ⟨HM7.out.rp.cell 0 rfl, HM7.out.dp.cell 0 rfl⟩ (fun hHeld => ?_)
        clear hK K HM HR
        generalize v0.alloc (.cells #[.int .i64 0, .int .i64 0, .int .u64 0, .string ⟨#[]⟩, .slice none 0 0, .slice none 0 0] 29) = w7 at *
        generalize v0.heap.size = g1 at *
        rename Hid (Jr.Mem _ _ _ _ _ _ _ _) => HM
        rename Hid (Jr.Rd _ _ _ _) => HR
        refine wpAnyH_ready (rs := [1, 5]) (by kernel_rfl) (by simp) ?_
        refine (AllReadyH.cons rfl (fun K hK => ?_) (AllReadyH.cons rfl (fun K hK => ?_) AllReadyH.nil))
        · have c4 := HM.out.var.cells.2.2.2.2.1
          go_simp
          refine hK.out _ _ ⟨HM.out.rp.cell 0 rfl, HM.out.dp.cell 0 rfl⟩ (fun hHeld => ?_)
          clear hK K c4
          refine wpAnyH_take (i := 6) (v := .int .i64 (s.2.length : Int)) rfl (by kernel_rfl) (by kernel_rfl) (by kernel_rfl) (fun _ _ _ h => h) (Or.inl ⟨by rfl, ?_⟩) (by assumption) ?_
          · intro w9 hSw
            go_simp
          simp only [Act.put]
          refine wpAnyH_ready (rs := [5]) (by kernel_rfl) (by simp) ?_
          refine (AllReadyH.cons rfl (fun K hK => ?_) AllReadyH.nil)
          · go_simp
            refine (HV.out _ HR.out).mono ?_
            rintro e' w3 ⟨val, rfl, hl3, b3, q3⟩
            have HM3 := Lib.hid (HM.out.still b3)
            have HT := Lib.hid (HM.out.newTree hl3)
            have HZ3 := Lib.hid (Jr.hasG HZ.out b3 (by have := HG1.out; have := HM.out.glt; omega))
            obtain ⟨k3, x3, y3, s3, ai3, n3, c3, ak3, m3, d3, rfl⟩ := hl3.form
            replace HR := Lib.hid q3
            replace HM := HM3
            replace HZ := HZ3
            refine hK.out _ _ ⟨HM.out.rp.cell 0 rfl, HM.out.dp.cell 0 rfl⟩ (fun hHeld => ?_)
            clear hK K hl3 b3 q3 HM3 HZ3
            refine Jr.listed (L := #[true, true, true, true, true, true, true, true, false, false, false, false, false]) (by kernel_rfl) ?_
            exact fin _ _ _ _ _ _ _ _ _ _ _ _ ⟨HM.out, HR.out, HZ.out, HT.out⟩
        · go_simp
          refine (HV.out _ HR.out).mono ?_
          rintro e' w3 ⟨val, rfl, hl3, b3, q3⟩
          have HM3 := Lib.hid (HM.out.still b3)
          have HT := Lib.hid (HM.out.newTree hl3)
          have HZ3 := Lib.hid (Jr.hasG HZ.out b3 (by have := HG1.out; have := HM.out.glt; omega))
          obtain ⟨k3, x3, y3, s3, ai3, n3, c3, ak3, m3, d3, rfl⟩ := hl3.form
          replace HR := Lib.hid q3
          replace HM := HM3
          replace HZ := HZ3
          refine hK.out _ _ ⟨HM.out.rp.cell 0 rfl, HM.out.dp.cell 0 rfl⟩ (fun hHeld => ?_)
          clear hK K hl3 b3 q3 HM3 HZ3
          refine wpAnyH_ready (rs := [1]) (by kernel_rfl) (by simp) ?_
          refine (AllReadyH.cons rfl (fun K hK => ?_) AllReadyH.nil)
          · have c4 := HM.out.var.cells.2.2.2.2.1
            go_simp
            refine hK.out _ _ ⟨HM.out.rp.cell 0 rfl, HM.out.dp.cell 0 rfl⟩ (fun hHeld => ?_)
            clear hK K c4
            refine wpAnyH_take (i := 6) (v := .int .i64 (s.2.length : Int)) rfl (by kernel_rfl) (by kernel_rfl) (by kernel_rfl) (fun _ _ _ h => h) (Or.inl ⟨by rfl, ?_⟩) (by assumption) ?_
            · intro w9 hSw
              go_simp
            simp only [Act.put]
            refine Jr.listed (L := #[true, true, true, true, true, true, true, true, false, false, false, false, false]) (by kernel_rfl) ?_
            exact fin _ _ _ _ _ _ _ _ _ _ _ _ ⟨HM.out, HR.out, HZ.out, HT.out⟩
    case h2 =>
      clear HM HR HV
      rintro w7 g1 k3 x3 y3 s3 ai3 n3 c3 ak3 m3 d3 ⟨hm7, hr7, hz7, ht7⟩
      have HM := Lib.hid hm7
      have HR := Lib.hid hr7
      have HZ := Lib.hid hz7
      have HT := Lib.hid ht7
      clear hm7 hr7 hz7 ht7 hHeld
      obtain ⟨xs, hx, hi⟩ := HM.out.items
      refine wpAnyH_ready (rs := [8]) (by kernel_rfl) (by simp) ?_
      refine AllReadyH.cons rfl (fun K hK => ?_) AllReadyH.nil
      rw [if_pos (by simp [Region.wanted])]
      refine Jr.wp_app 26 29 (.agg #[.int .i64 0, .int .i64 0, .int .u64 0, .string ⟨#[]⟩, .slice none 0 0, .slice none 0 0]) 6 88 Tryd.underlying26 Vc.infoV (by decide) rfl _ _ rfl (.slice ai s.2.length ci) rfl hx g1 [.int .i64 0, .int .i64 0, .int .u64 0, .string ⟨#[]⟩, .slice none 0 0, .slice none 0 0] rfl rfl (Jr.zero_cells HZ.out) Jr.zero_one (by omega) (by unfold maxLen; omega) HM.out.size ?_
      intro vi4 w4 ho4 hgr4 hf4
      obtain ⟨G, cap, rfl, hG4, z0, z1, z2, z3, z4, z5, fz⟩ := Jr.new_cells hx.1 ho4
      have HX4 := Lib.hid (HM.out.box4 hx hgr4)
      have c4 := HX4.out.cells.2.2.2.2.1
      have f4 := HX4.out.has.frozen 4
      have fz0 := fz (s.2.length * 6)
      have fz1 := fz (s.2.length * 6 + 1)
      have fz2 := fz (s.2.length * 6 + 2)
      have fz3 := fz (s.2.length * 6 + 3)
      have fz4 := fz (s.2.length * 6 + 4)
      have fz5 := fz (s.2.length * 6 + 5)
      have hb9 : ¬ ((s.2.length : Int) + 1 ≤ (s.2.length : Int)) := by omega
      have hGb : w.heap.size + 1 + 1 + 1 ≠ G := by omega
      have hbG : (⟨w.heap.size + 1 + 1 + 1, 4, none⟩ : Addr).block ≠ G := hGb
      have HS4 := Lib.hid (HM.out.low4 hx hgr4)
      have HO4 := Lib.hid ho4
      have HGR := Lib.hid hgr4
      have HF := Lib.hid hf4
      have HX := Lib.hid hx
      have HI := Lib.hid hi
      refine hK.out _ _ HS4.out (fun hHeld => ?_)
      clear hK K ho4 hgr4 hf4 hx hi fz
      refine wpAnyH_take (i := 9) (v := .pointer (some ⟨G, s.2.length * 6, none⟩)) rfl (by kernel_rfl) (by kernel_rfl) (by kernel_rfl) (fun _ _ _ h => h) (Or.inl ⟨by rfl, ?_⟩) (by assumption) ?_
      · intro w9 hSw
        go_simp
      simp only [Act.put]
      refine wpAnyH_take (i := 11) (v := .pointer (some ⟨w.heap.size + 1 + 1 + 1, 4, none⟩)) rfl (by kernel_rfl) (by kernel_rfl) (by kernel_rfl) (fun _ _ _ h => h) (Or.inl ⟨by rfl, ?_⟩) (by assumption) ?_
      · intro w9 hSw
        go_simp
      simp only [Act.put]
      refine wpAnyH_ready (rs := [10, 12]) (by kernel_rfl) (by simp) ?_
      refine (AllReadyH.cons rfl (fun K hK => ?_) (AllReadyH.cons rfl (fun K hK => ?_) AllReadyH.nil))
      · go_simp
        have HQ := Lib.hid (Jr.six_other w4 G (s.2.length * 6) (.int .i64 k3) (.int .i64 x3) (.int .u64 (y3 : Int)) (.string s3) (.slice ai3 n3 c3) (.slice ak3 m3 d3))
        have c46 := HX4.out.cellQ HQ.out hGb 4
        have f46 := HX4.out.frozenQ HQ.out hGb 4
        refine hK.out _ _ (Jr.lowQ HS4.out HQ.out (by omega) (by omega)) (fun hHeld => ?_)
        clear hK K
        have HFIN := Lib.hid (HM.out.fin1 t HT.out HX.out HI.out HGR.out HF.out HO4.out HR.out)
        clear z0 z1 z2 z3 z4 z5 fz0 fz1 fz2 fz3 fz4 fz5 c4 f4
        generalize hW6 : ((((((w4.setCell ⟨G, s.2.length * 6, none⟩ (.int .i64 k3)).setCell ⟨G, s.2.length * 6 + 1, none⟩ (.int .i64 x3)).setCell ⟨G, s.2.length * 6 + 2, none⟩ (.int .u64 (y3 : Int))).setCell ⟨G, s.2.length * 6 + 3, none⟩ (.string s3)).setCell ⟨G, s.2.length * 6 + 4, none⟩ (.slice ai3 n3 c3)).setCell ⟨G, s.2.length * 6 + 5, none⟩ (.slice ak3 m3 d3)) = W6 at *
        refine wpAnyH_ready (rs := [12]) (by kernel_rfl) (by simp) ?_
        refine AllReadyH.cons rfl (fun K hK => ?_) AllReadyH.nil
        go_simp
        refine hK.out _ _ (Jr.lowS hHeld _ _ _ (by omega) (by omega)) (fun hHeld => ?_)
        refine wpAnyH_done (by kernel_rfl) ?_ _
        first | go_end0 | refine bodyPost_ret (results_none rfl _ _ _) rfl ?_
        exact ⟨rfl, ⟨_, _, HFIN.out.1⟩, HFIN.out.2⟩
      · go_simp
        have HFIN := Lib.hid (HM.out.fin2 t HT.out HX.out HI.out HGR.out HF.out HO4.out HR.out)
        refine hK.out _ _ (Jr.lowS HS4.out _ _ _ (by omega) (by omega)) (fun hHeld => ?_)
        clear hK K
        replace z0 := (World.cell?_setCell_far w4 ⟨w.heap.size + 1 + 1 + 1, 4, none⟩ ⟨G, s.2.length * 6, none⟩ (.slice (some ⟨G, 0, none⟩) (s.2.length + 1) cap) hbG).trans z0
        replace z1 := (World.cell?_setCell_far w4 ⟨w.heap.size + 1 + 1 + 1, 4, none⟩ ⟨G, s.2.length * 6 + 1, none⟩ (.slice (some ⟨G, 0, none⟩) (s.2.length + 1) cap) hbG).trans z1
        replace z2 := (World.cell?_setCell_far w4 ⟨w.heap.size + 1 + 1 + 1, 4, none⟩ ⟨G, s.2.length * 6 + 2, none⟩ (.slice (some ⟨G, 0, none⟩) (s.2.length + 1) cap) hbG).trans z2
        replace z3 := (World.cell?_setCell_far w4 ⟨w.heap.size + 1 + 1 + 1, 4, none⟩ ⟨G, s.2.length * 6 + 3, none⟩ (.slice (some ⟨G, 0, none⟩) (s.2.length + 1) cap) hbG).trans z3
        replace z4 := (World.cell?_setCell_far w4 ⟨w.heap.size + 1 + 1 + 1, 4, none⟩ ⟨G, s.2.length * 6 + 4, none⟩ (.slice (some ⟨G, 0, none⟩) (s.2.length + 1) cap) hbG).trans z4
        replace z5 := (World.cell?_setCell_far w4 ⟨w.heap.size + 1 + 1 + 1, 4, none⟩ ⟨G, s.2.length * 6 + 5, none⟩ (.slice (some ⟨G, 0, none⟩) (s.2.length + 1) cap) hbG).trans z5
        replace fz0 := (Jr.frozen_set w4 ⟨w.heap.size + 1 + 1 + 1, 4, none⟩ (.slice (some ⟨G, 0, none⟩) (s.2.length + 1) cap) ⟨G, s.2.length * 6, none⟩).trans fz0
        replace fz1 := (Jr.frozen_set w4 ⟨w.heap.size + 1 + 1 + 1, 4, none⟩ (.slice (some ⟨G, 0, none⟩) (s.2.length + 1) cap) ⟨G, s.2.length * 6 + 1, none⟩).trans fz1
        replace fz2 := (Jr.frozen_set w4 ⟨w.heap.size + 1 + 1 + 1, 4, none⟩ (.slice (some ⟨G, 0, none⟩) (s.2.length + 1) cap) ⟨G, s.2.length * 6 + 2, none⟩).trans fz2
        replace fz3 := (Jr.frozen_set w4 ⟨w.heap.size + 1 + 1 + 1, 4, none⟩ (.slice (some ⟨G, 0, none⟩) (s.2.length + 1) cap) ⟨G, s.2.length * 6 + 3, none⟩).trans fz3
        replace fz4 := (Jr.frozen_set w4 ⟨w.heap.size + 1 + 1 + 1, 4, none⟩ (.slice (some ⟨G, 0, none⟩) (s.2.length + 1) cap) ⟨G, s.2.length * 6 + 4, none⟩).trans fz4
        replace fz5 := (Jr.frozen_set w4 ⟨w.heap.size + 1 + 1 + 1, 4, none⟩ (.slice (some ⟨G, 0, none⟩) (s.2.length + 1) cap) ⟨G, s.2.length * 6 + 5, none⟩).trans fz5
        clear c4 f4
        generalize w4.setCell ⟨w.heap.size + 1 + 1 + 1, 4, none⟩ (.slice (some ⟨G, 0, none⟩) (s.2.length + 1) cap) = W5 at *
        refine wpAnyH_ready (rs := [10]) (by kernel_rfl) (by simp) ?_
        refine AllReadyH.cons rfl (fun K hK => ?_) AllReadyH.nil
        go_simp
        refine hK.out _ _ (Jr.lowQ hHeld (Jr.six_other W5 G (s.2.length * 6) _ _ _ _ _ _) (by omega) (by omega)) (fun hHeld => ?_)
        refine wpAnyH_done (by kernel_rfl) ?_ _
        first | go_end0 | refine bodyPost_ret (results_none rfl _ _ _) rfl ?_
        exact ⟨rfl, ⟨_, _, HFIN.out.1⟩, HFIN.out.2⟩
end Go.Proofs.YtiajclmhimkpnaaDoor

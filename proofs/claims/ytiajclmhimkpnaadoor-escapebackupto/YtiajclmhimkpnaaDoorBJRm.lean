/-
  THE WALK of the landed reader's record: its part.
-/
import Derived.Test.YtiajclmhimkpnaaDoorBJRl
import Derived.Deep.CutRange
namespace Go.Proofs.YtiajclmhimkpnaaDoor
open Go.RowKit
theorem Jr.one_cell {u : World} {g1 : Nat} {x : Value} (h : Vm.Has u g1 (.cells #[x] 9)) : ∀ (j : Nat) (y : Value), ([x] : List Value)[j]? = some y → u.cell? ((⟨g1, 0, none⟩ : Addr).add j) = some y := by
  intro j y hj
  rw [Vc.add, Nat.zero_add]
  refine h.cell j ?_
  rw [← hj]
  simp
theorem Jr.one_one {b : ByteArray} : ∀ x ∈ ([.string b] : List Value), x.oneCell' = true := by
  intro x hx
  rw [List.mem_singleton.1 hx]
  rfl
theorem Jr.slice_form {u : World} {base n : Nat} {ty : TypeId} {sz : Nat} {v : Value} {xs : List Value} (h : u.ownsRow base ty sz v n xs) : ∃ a c, v = .slice a n c := by
  obtain ⟨a, dd, e1, -⟩ := Vc.row_form h
  exact ⟨a, dd, e1⟩
theorem Jr.keyRd {w : World} {g e : Nat} {kd : Int} {s : Jr.St} {vi vk vk' : Value} {u u' : World} {b : ByteArray} {T : ByteArray} {r : List UInt8} (h : Jr.Mem w g e kd s vi vk u) (hR : Jr.Rd u g T r) (_ho : u'.ownsRow (w.heap.size + 4) 9 1 vk' (s.1.length + 1) (s.1.map .string ++ [.string b])) (hgr : u.grownBy u' vk.ownBlock) (_hf : vk'.ownBlock = vk.ownBlock ∨ vk'.ownBlock = some u.heap.size) :
    Jr.Rd (u'.setCell ⟨w.heap.size + 1 + 1 + 1, 5, none⟩ vk') g T r := by
  have hg := h.glt
  obtain ⟨i, h1, h2, h3, hB⟩ := hR
  refine ⟨i, h1, h2, h3, ?_⟩
  show (u'.setCell ⟨w.heap.size + 1 + 1 + 1, 5, none⟩ vk').heap[g]? = _
  rw [Below.heap_setCell _ _ _ _ (by show g ≠ w.heap.size + 1 + 1 + 1; omega), h.under h.keys hgr g (by omega)]
  exact hB
theorem Jr.fin_rec {w W : World} {g e : Nat} {S1 S2 : Jr.St} {vi vk : Value} (h : Jr.Mem w g e 6 S1 vi vk W) (q : S1 = S2) (hl : S2.1.length = S2.2.length) : S2.1.length = S2.2.length ∧ ∃ vi vk, Jr.Mem w g e 6 S2 vi vk W := by
  subst q
  exact ⟨hl, _, _, h⟩
theorem Jr.key_quo (l : List UInt8) : Jr.key true l = match Jr.quo (Js.ws l) with
    | none => none
    | some (k, r1) => if Pl.pre [58] (Js.ws r1) = true then some ([⟨k.toArray⟩], (Js.ws r1).drop 1) else none := by
  unfold Jr.key Jr.quo
  rw [if_pos rfl, Jr.is_pre 34 l]
  by_cases h : Pl.pre [34] (Js.ws l) = true
  · rw [if_pos h, if_pos h]
    simp only
    cases Jr.text ((Js.ws l).drop 1) with
    | none => rfl
    | some p =>
      obtain ⟨k, r1⟩ := p
      simp only
      rw [Jr.is_pre 58 r1]
      by_cases h2 : Pl.pre [58] (Js.ws r1) = true
      · rw [if_pos h2, if_pos h2]
      · rw [if_neg h2, if_neg h2]
  · rw [if_neg h, if_neg h]
set_option maxRecDepth 100000 in
set_option maxHeartbeats 8000000 in
theorem Jr.recPart (d e : Nat) (he : e ≤ 8) (g : Nat) (T : ByteArray) (hV : Jr.Val d e g T) (w : World) (s : Jr.St) (l : List UInt8) (u : World) (hn : s.2.length ≤ 65536) (hn1 : s.1.length = s.2.length) (hR : Jr.Rd u g T l) (vi vk : Value) (hM : Jr.Mem w g e 6 s vi vk u) :
    Calls Tryd.prog 56 #[.pointer (some ⟨w.heap.size, 0, none⟩), .pointer (some ⟨w.heap.size + 1 + 1 + 1, 0, none⟩), .pointer (some ⟨w.heap.size + 1, 0, none⟩)] u (Jr.ROut (Jr.part (Jr.value d) true s l) (fun s u => s.1.length = s.2.length ∧ ∃ vi vk, Jr.Mem w g e 6 s vi vk u) w g T) := by
  have bl1 := Jr.blanks l g T u hR
  have qu := fun u q => Jr.quoted (Js.ws l) g T u q
  have c0 := hM.rp.cell 0 (v := .pointer (some ⟨g, 0, none⟩)) rfl
  have ew : IntKind.i64.wrap ((e : Int) + 1) = (e : Int) + 1 := by rw [IntKind.wrap_i64]; omega
  obtain ⟨O, hO⟩ : ∃ O, Jr.part (Jr.value d) true s l = O := ⟨_, rfl⟩
  rw [hO]
  unfold Jr.part at hO
  rw [Jr.key_quo] at hO
  have HM0 := Lib.hid hM
  have HVV := Lib.hid hV
  have HN1 := Lib.hid hn1
  have hn2 : s.1.length ≤ 65536 := by omega
  clear hR hM hV hn1
  obtain ⟨ai, ci, ak, ck, rfl, rfl⟩ := HM0.out.forms
  cases hq : Jr.quo (Js.ws l) with
  | none =>
    rw [hq] at qu hO
    have hO : none = O := hO
    subst hO
    clear hq
    go_enter Tryd.func56, Tryd.ntmps56
    go_wp2_with (go_at_call 32; refine bl1.mono ?_; rintro e1 w1 ⟨rfl, b1, q1⟩; have HM := Lib.hid ((HM0.out.still b1).still (Jr.grown_some (Jr.grown_drew w1) (some g))); have HR := Lib.hid (q1.on (Jr.grown_drew w1)); have hS0 := HM.out.rp.cell 0 (v := .pointer (some ⟨g, 0, none⟩)) rfl; clear b1 q1 bl1 c0)
    refine wp_region_held_drew (S := (fun r => r.cell? ⟨w.heap.size, 0, none⟩ = some (.pointer (some ⟨g, 0, none⟩)))) (by kernel_rfl) hS0 (fun hHeld => ?_)
    clear hS0
    generalize w1.drew = v0 at *
    refine wpAnyH_take (i := 0) (v := .pointer (some ⟨w.heap.size + 1 + 1 + 1, 5, none⟩)) rfl (by kernel_rfl) (by kernel_rfl) (by kernel_rfl) (fun _ _ _ h => h) (Or.inl ⟨by rfl, ?_⟩) (by assumption) ?_
    · intro w9 hSw
      go_simp
    simp only [Act.put]
    refine wpAnyH_take (i := 2) (v := .pointer (some ⟨g, 0, none⟩)) rfl (by kernel_rfl) (by kernel_rfl) (by kernel_rfl) (fun _ _ _ h => h) (Or.inl ⟨by rfl, ?_⟩) (by assumption) ?_
    · intro w9 hSw
      go_simp
    simp only [Act.put]
    refine wpAnyH_ready (rs := [1, 3]) (by kernel_rfl) (by simp) ?_
    refine (AllReadyH.cons rfl (fun K hK => ?_) (AllReadyH.cons rfl (fun K hK => ?_) AllReadyH.nil))
    · have c5 := HM.out.var.cells.2.2.2.2.2
      go_simp
      refine hK.out _ _ (HM.out.rp.cell 0 rfl) (fun hHeld => ?_)
      clear hK K c5
      refine wpAnyH_ready (rs := [3]) (by kernel_rfl) (by simp) ?_
      refine (AllReadyH.cons rfl (fun K hK => ?_) AllReadyH.nil)
      · go_simp
        refine (qu _ HR.out).mono ?_
        rintro e' w3 ⟨rfl, b3⟩
        exact ⟨rfl, rfl, Jr.grown_trans HM.out.grown b3⟩
    · go_simp
      refine (qu _ HR.out).mono ?_
      rintro e' w3 ⟨rfl, b3⟩
      exact ⟨rfl, rfl, Jr.grown_trans HM.out.grown b3⟩
  | some p =>
    obtain ⟨kb, r1⟩ := p
    rw [hq] at qu hO
    clear hq
    simp only at hO
    have HO := Lib.hid hO
    clear hO
    go_enter Tryd.func56, Tryd.ntmps56
    go_wp2_with (go_at_call 32; refine bl1.mono ?_; rintro e1 w1 ⟨rfl, b1, q1⟩; have HM := Lib.hid ((HM0.out.still b1).still (Jr.grown_some (Jr.grown_drew w1) (some g))); have HR := Lib.hid (q1.on (Jr.grown_drew w1)); have hS0 := HM.out.rp.cell 0 (v := .pointer (some ⟨g, 0, none⟩)) rfl; clear b1 q1 bl1 c0)
    go_cut [] from 5 to 11 (fun wx => ∃ ak4 ck4, Jr.Mem w g e 6 (s.1 ++ [⟨kb.toArray⟩], s.2) (.slice ai s.2.length ci) (.slice ak4 (s.1.length + 1) ck4) wx ∧ Jr.Rd wx g T r1)
    case first =>
      refine wp_region_held_drew (S := (fun r => r.cell? ⟨w.heap.size, 0, none⟩ = some (.pointer (some ⟨g, 0, none⟩)))) (by kernel_rfl) hS0 (fun hHeld => ?_)
      clear hS0
      generalize w1.drew = v0 at *
      refine wpAnyH_take (i := 0) (v := .pointer (some ⟨w.heap.size + 1 + 1 + 1, 5, none⟩)) rfl (by kernel_rfl) (by kernel_rfl) (by kernel_rfl) (fun _ _ _ h => h) (Or.inl ⟨by rfl, ?_⟩) (by assumption) ?_
      · intro w9 hSw
        go_simp
      simp only [Act.put]
      refine wpAnyH_take (i := 2) (v := .pointer (some ⟨g, 0, none⟩)) rfl (by kernel_rfl) (by kernel_rfl) (by kernel_rfl) (fun _ _ _ h => h) (Or.inl ⟨by rfl, ?_⟩) (by assumption) ?_
      · intro w9 hSw
        go_simp
      simp only [Act.put]
      refine wpAnyH_ready (rs := [1, 3]) (by kernel_rfl) (by simp) ?_
      refine (AllReadyH.cons rfl (fun K hK => ?_) (AllReadyH.cons rfl (fun K hK => ?_) AllReadyH.nil))
      · have c5 := HM.out.var.cells.2.2.2.2.2
        go_simp
        refine hK.out _ _ (HM.out.rp.cell 0 rfl) (fun hHeld => ?_)
        clear hK K c5
        refine wpAnyH_ready (rs := [3]) (by kernel_rfl) (by simp) ?_
        refine (AllReadyH.cons rfl (fun K hK => ?_) AllReadyH.nil)
        · go_simp
          refine (qu _ HR.out).mono ?_
          rintro e' w3 ⟨rfl, b3, q3⟩
          replace HM := Lib.hid (HM.out.still b3)
          replace HR := Lib.hid q3
          refine hK.out _ _ (HM.out.rp.cell 0 rfl) (fun hHeld => ?_)
          clear hK K b3 q3
          refine wpAnyH_ready (rs := [4]) (by kernel_rfl) (by simp) ?_
          refine (AllReadyH.cons rfl (fun K hK => ?_) AllReadyH.nil)
          · have HM7 := Lib.hid (HM.out.still (Jr.grown_some (World.grownBy_alloc w3 (.cells #[.string ⟨kb.toArray⟩] 9) none) (some g)))
            have HR7 := Lib.hid (HR.out.on (World.grownBy_alloc w3 (.cells #[.string ⟨kb.toArray⟩] 9) none))
            have HZ := Lib.hid (Vm.Has.new w3 (.cells #[.string ⟨kb.toArray⟩] 9) _ rfl)
            go_simp
            refine hK.out _ _ (HM7.out.rp.cell 0 rfl) (fun hHeld => ?_)
            clear hK K HM HR
            generalize w3.alloc (.cells #[.string ⟨kb.toArray⟩] 9) = w7 at *
            generalize w3.heap.size = g1 at *
            rename Hid (Jr.Mem _ _ _ _ _ _ _ _) => HM
            rename Hid (Jr.Rd _ _ _ _) => HR
            refine wpAnyH_ready (rs := [5]) (by kernel_rfl) (by simp) ?_
            refine AllReadyH.cons rfl (fun K hK => ?_) AllReadyH.nil
            rw [if_pos (by simp [Region.wanted])]
            refine Jr.wp_app 27 9 (.string ⟨#[]⟩) 1 16 Tryd.underlying27 Vc.infoS (by decide) rfl _ _ rfl (.slice ak s.1.length ck) rfl HM.out.keys g1 [.string ⟨kb.toArray⟩] rfl rfl (Jr.one_cell HZ.out) Jr.one_one (by omega) (by unfold maxLen; omega) HM.out.size ?_
            intro vk4 w4 ho4 hgr4 hf4
            have HX4 := Lib.hid (HM.out.box4 HM.out.keys hgr4)
            have c5 := HX4.out.cells.2.2.2.2.2
            have f5 := HX4.out.has.frozen 5
            have HS4 := Lib.hid (HM.out.low4 HM.out.keys hgr4)
            have HK4 := Lib.hid (HM.out.key ⟨kb.toArray⟩ ho4 hgr4 hf4)
            have HR4 := Lib.hid (Jr.keyRd HM.out HR.out ho4 hgr4 hf4)
            obtain ⟨ak4, ck4, rfl⟩ := Jr.slice_form ho4
            refine hK.out _ _ HS4.out.1 (fun hHeld => ?_)
            clear hK K ho4 hgr4 hf4
            refine wpAnyH_take (i := 6) (v := .pointer (some ⟨w.heap.size + 1 + 1 + 1, 5, none⟩)) rfl (by kernel_rfl) (by kernel_rfl) (by kernel_rfl) (fun _ _ _ h => h) (Or.inl ⟨by rfl, ?_⟩) (by assumption) ?_
            · intro w9 hSw
              go_simp
            simp only [Act.put]
            refine wpAnyH_ready (rs := [7]) (by kernel_rfl) (by simp) ?_
            refine AllReadyH.cons rfl (fun K hK => ?_) AllReadyH.nil
            go_simp
            refine hK.out _ _ (HK4.out.rp.cell 0 rfl) (fun hHeld => ?_)
            clear hK K
            refine wpAnyH_done (by kernel_rfl) ?_ _
            (try go_wp2_with fail)
            go_meet
            exact ⟨_, _, HK4.out, HR4.out⟩
      · go_simp
        refine (qu _ HR.out).mono ?_
        rintro e' w3 ⟨rfl, b3, q3⟩
        replace HM := Lib.hid (HM.out.still b3)
        replace HR := Lib.hid q3
        refine hK.out _ _ (HM.out.rp.cell 0 rfl) (fun hHeld => ?_)
        clear hK K b3 q3
        refine wpAnyH_ready (rs := [1, 4]) (by kernel_rfl) (by simp) ?_
        refine (AllReadyH.cons rfl (fun K hK => ?_) (AllReadyH.cons rfl (fun K hK => ?_) AllReadyH.nil))
        · have c5 := HM.out.var.cells.2.2.2.2.2
          go_simp
          refine hK.out _ _ (HM.out.rp.cell 0 rfl) (fun hHeld => ?_)
          clear hK K c5
          refine wpAnyH_ready (rs := [4]) (by kernel_rfl) (by simp) ?_
          refine (AllReadyH.cons rfl (fun K hK => ?_) AllReadyH.nil)
          · have HM7 := Lib.hid (HM.out.still (Jr.grown_some (World.grownBy_alloc w3 (.cells #[.string ⟨kb.toArray⟩] 9) none) (some g)))
            have HR7 := Lib.hid (HR.out.on (World.grownBy_alloc w3 (.cells #[.string ⟨kb.toArray⟩] 9) none))
            have HZ := Lib.hid (Vm.Has.new w3 (.cells #[.string ⟨kb.toArray⟩] 9) _ rfl)
            go_simp
            refine hK.out _ _ (HM7.out.rp.cell 0 rfl) (fun hHeld => ?_)
            clear hK K HM HR
            generalize w3.alloc (.cells #[.string ⟨kb.toArray⟩] 9) = w7 at *
            generalize w3.heap.size = g1 at *
            rename Hid (Jr.Mem _ _ _ _ _ _ _ _) => HM
            rename Hid (Jr.Rd _ _ _ _) => HR
            refine wpAnyH_ready (rs := [5]) (by kernel_rfl) (by simp) ?_
            refine AllReadyH.cons rfl (fun K hK => ?_) AllReadyH.nil
            rw [if_pos (by simp [Region.wanted])]
            refine Jr.wp_app 27 9 (.string ⟨#[]⟩) 1 16 Tryd.underlying27 Vc.infoS (by decide) rfl _ _ rfl (.slice ak s.1.length ck) rfl HM.out.keys g1 [.string ⟨kb.toArray⟩] rfl rfl (Jr.one_cell HZ.out) Jr.one_one (by omega) (by unfold maxLen; omega) HM.out.size ?_
            intro vk4 w4 ho4 hgr4 hf4
            have HX4 := Lib.hid (HM.out.box4 HM.out.keys hgr4)
            have c5 := HX4.out.cells.2.2.2.2.2
            have f5 := HX4.out.has.frozen 5
            have HS4 := Lib.hid (HM.out.low4 HM.out.keys hgr4)
            have HK4 := Lib.hid (HM.out.key ⟨kb.toArray⟩ ho4 hgr4 hf4)
            have HR4 := Lib.hid (Jr.keyRd HM.out HR.out ho4 hgr4 hf4)
            obtain ⟨ak4, ck4, rfl⟩ := Jr.slice_form ho4
            refine hK.out _ _ HS4.out.1 (fun hHeld => ?_)
            clear hK K ho4 hgr4 hf4
            refine wpAnyH_take (i := 6) (v := .pointer (some ⟨w.heap.size + 1 + 1 + 1, 5, none⟩)) rfl (by kernel_rfl) (by kernel_rfl) (by kernel_rfl) (fun _ _ _ h => h) (Or.inl ⟨by rfl, ?_⟩) (by assumption) ?_
            · intro w9 hSw
              go_simp
            simp only [Act.put]
            refine wpAnyH_ready (rs := [7]) (by kernel_rfl) (by simp) ?_
            refine AllReadyH.cons rfl (fun K hK => ?_) AllReadyH.nil
            go_simp
            refine hK.out _ _ (HK4.out.rp.cell 0 rfl) (fun hHeld => ?_)
            clear hK K
            refine wpAnyH_done (by kernel_rfl) ?_ _
            (try go_wp2_with fail)
            go_meet
            exact ⟨_, _, HK4.out, HR4.out⟩
        · have HM7 := Lib.hid (HM.out.still (Jr.grown_some (World.grownBy_alloc w3 (.cells #[.string ⟨kb.toArray⟩] 9) none) (some g)))
          have HR7 := Lib.hid (HR.out.on (World.grownBy_alloc w3 (.cells #[.string ⟨kb.toArray⟩] 9) none))
          have HZ := Lib.hid (Vm.Has.new w3 (.cells #[.string ⟨kb.toArray⟩] 9) _ rfl)
          go_simp
          refine hK.out _ _ (HM7.out.rp.cell 0 rfl) (fun hHeld => ?_)
          clear hK K HM HR
          generalize w3.alloc (.cells #[.string ⟨kb.toArray⟩] 9) = w7 at *
          generalize w3.heap.size = g1 at *
          rename Hid (Jr.Mem _ _ _ _ _ _ _ _) => HM
          rename Hid (Jr.Rd _ _ _ _) => HR
          refine wpAnyH_ready (rs := [1]) (by kernel_rfl) (by simp) ?_
          refine (AllReadyH.cons rfl (fun K hK => ?_) AllReadyH.nil)
          · have c5 := HM.out.var.cells.2.2.2.2.2
            go_simp
            refine hK.out _ _ (HM.out.rp.cell 0 rfl) (fun hHeld => ?_)
            clear hK K c5
            refine wpAnyH_ready (rs := [5]) (by kernel_rfl) (by simp) ?_
            refine AllReadyH.cons rfl (fun K hK => ?_) AllReadyH.nil
            rw [if_pos (by simp [Region.wanted])]
            refine Jr.wp_app 27 9 (.string ⟨#[]⟩) 1 16 Tryd.underlying27 Vc.infoS (by decide) rfl _ _ rfl (.slice ak s.1.length ck) rfl HM.out.keys g1 [.string ⟨kb.toArray⟩] rfl rfl (Jr.one_cell HZ.out) Jr.one_one (by omega) (by unfold maxLen; omega) HM.out.size ?_
            intro vk4 w4 ho4 hgr4 hf4
            have HX4 := Lib.hid (HM.out.box4 HM.out.keys hgr4)
            have c5 := HX4.out.cells.2.2.2.2.2
            have f5 := HX4.out.has.frozen 5
            have HS4 := Lib.hid (HM.out.low4 HM.out.keys hgr4)
            have HK4 := Lib.hid (HM.out.key ⟨kb.toArray⟩ ho4 hgr4 hf4)
            have HR4 := Lib.hid (Jr.keyRd HM.out HR.out ho4 hgr4 hf4)
            obtain ⟨ak4, ck4, rfl⟩ := Jr.slice_form ho4
            refine hK.out _ _ HS4.out.1 (fun hHeld => ?_)
            clear hK K ho4 hgr4 hf4
            refine wpAnyH_take (i := 6) (v := .pointer (some ⟨w.heap.size + 1 + 1 + 1, 5, none⟩)) rfl (by kernel_rfl) (by kernel_rfl) (by kernel_rfl) (fun _ _ _ h => h) (Or.inl ⟨by rfl, ?_⟩) (by assumption) ?_
            · intro w9 hSw
              go_simp
            simp only [Act.put]
            refine wpAnyH_ready (rs := [7]) (by kernel_rfl) (by simp) ?_
            refine AllReadyH.cons rfl (fun K hK => ?_) AllReadyH.nil
            go_simp
            refine hK.out _ _ (HK4.out.rp.cell 0 rfl) (fun hHeld => ?_)
            clear hK K
            refine wpAnyH_done (by kernel_rfl) ?_ _
            (try go_wp2_with fail)
            go_meet
            exact ⟨_, _, HK4.out, HR4.out⟩
    case rest =>
      obtain ⟨ak4, ck4, hM4, q4⟩ := hcut
      have bl2 := Jr.blanks r1 g T wc q4
      have c0 := hM4.rp.cell 0 (v := .pointer (some ⟨g, 0, none⟩)) rfl
      obtain ⟨s1, hs1⟩ : ∃ s1 : Jr.St, s1 = (s.1 ++ [⟨kb.toArray⟩], s.2) := ⟨_, rfl⟩
      have e5 : s.2.length = s1.2.length := by rw [hs1]
      have HM5 : Hid (Jr.Mem w g e 6 s1 (.slice ai s1.2.length ci) (.slice ak4 (s.1.length + 1) ck4) wc) := by
        unfold Hid
        rw [← e5, hs1]
        exact hM4
      have HSE : Hid (∀ t : Vt, ((s1.1, s1.2 ++ [t]) : Jr.St) = (s.1 ++ [(⟨kb.toArray⟩ : ByteArray)], s.2 ++ [t])) := by
        intro t
        rw [hs1]
      have HLEN : Hid (∀ t : Vt, (s.1 ++ [(⟨kb.toArray⟩ : ByteArray)]).length = (s.2 ++ [t]).length) := by
        intro t
        have := HN1.out
        simp only [List.length_append, List.length_cons, List.length_nil]
        omega
      have hn3 : s1.2.length ≤ 65536 := by omega
      clear hM4 q4 qu hs1 e5 HM0 HM HR hS0 hn hn2 HN1
      by_cases h58 : Pl.pre [58] (Js.ws r1) = true
      · rw [if_pos h58] at HO
        have wd := fun u q => Jr.word ⟨#[58]⟩ (Js.ws r1) h58 g T u q
        rw [show (⟨#[58]⟩ : ByteArray).size = 1 from rfl] at wd
        have HV := Lib.hid (HVV.out ((Js.ws r1).drop 1))
        generalize (Js.ws r1).drop 1 = r2 at *
        clear h58 HVV
        replace HO : Hid ((match Jr.value d r2 with | none => none | some (t, r3) => some ((s.1 ++ [(⟨kb.toArray⟩ : ByteArray)], s.2 ++ [t]), r3)) = O) := HO
        cases hval : Jr.value d r2 with
        | none =>
          rw [hval] at HV HO
          have e9 : none = O := HO.out
          subst e9
          clear hval HO
          go_wp2_with (first | (go_at_call 32; refine bl2.mono ?_; rintro e5 w5 ⟨rfl, b5, q5⟩; have HM6 := Lib.hid (HM5.out.still b5); have c6 := HM6.out.rp.cell 0 (v := .pointer (some ⟨g, 0, none⟩)) rfl; replace wd := wd _ q5; clear b5 q5 bl2 c0) | (go_at_call 40; refine wd.mono ?_; rintro e6 w6 ⟨rfl, b6, q6⟩; have HM := Lib.hid ((HM6.out.still b6).still (Jr.grown_some (Jr.grown_drew w6) (some g))); have HR := Lib.hid (q6.on (Jr.grown_drew w6)); have hS0 : w6.drew.cell? ⟨w.heap.size, 0, none⟩ = some (.pointer (some ⟨g, 0, none⟩)) ∧ w6.drew.cell? ⟨w.heap.size + 1, 0, none⟩ = some (.int .i64 (e : Int)) := ⟨HM.out.rp.cell 0 rfl, HM.out.dp.cell 0 rfl⟩; clear b6 q6 wd c6))
          refine wp_region_held_drew (S := (fun r => r.cell? ⟨w.heap.size, 0, none⟩ = some (.pointer (some ⟨g, 0, none⟩)) ∧ r.cell? ⟨w.heap.size + 1, 0, none⟩ = some (.int .i64 (e : Int)))) (by kernel_rfl) hS0 (fun hHeld => ?_)
          clear hS0
          generalize w6.drew = v0 at *
          refine wpAnyH_take (i := 0) (v := .pointer (some ⟨w.heap.size + 1 + 1 + 1, 4, none⟩)) rfl (by kernel_rfl) (by kernel_rfl) (by kernel_rfl) (fun _ _ _ h => h) (Or.inl ⟨by rfl, ?_⟩) (by assumption) ?_
          · intro w9 hSw
            go_simp
          simp only [Act.put]
          refine wpAnyH_take (i := 2) (v := .pointer (some ⟨g, 0, none⟩)) rfl (by kernel_rfl) (by kernel_rfl) (by kernel_rfl) (fun _ _ _ h => h) (Or.inl ⟨by rfl, ?_⟩) (by assumption) ?_
          · intro w9 hSw
            go_simp
          simp only [Act.put]
          refine wpAnyH_take (i := 3) (v := .int .i64 (e : Int)) rfl (by kernel_rfl) (by kernel_rfl) (by kernel_rfl) (fun _ _ _ h => h) (Or.inl ⟨by rfl, ?_⟩) (by assumption) ?_
          · intro w9 hSw
            go_simp
          simp only [Act.put]
          refine wpAnyH_take (i := 4) (v := .int .i64 ((e : Int) + 1)) rfl (by kernel_rfl) (by kernel_rfl) (by kernel_rfl) (fun _ _ _ h => h) (Or.inl ⟨by rfl, ?_⟩) (by assumption) ?_
          · intro w9 hSw
            go_simp
          simp only [Act.put]
          refine wpAnyH_ready (rs := [1, 5, 7]) (by kernel_rfl) (by simp) ?_
          refine (AllReadyH.cons rfl (fun K hK => ?_) (AllReadyH.cons rfl (fun K hK => ?_) (AllReadyH.cons rfl (fun K hK => ?_) AllReadyH.nil)))
          · have c4 := HM.out.var.cells.2.2.2.2.1
            go_simp
            refine hK.out _ _ ⟨HM.out.rp.cell 0 rfl, HM.out.dp.cell 0 rfl⟩ (fun hHeld => ?_)
            clear hK K c4
            refine wpAnyH_take (i := 6) (v := .int .i64 (s1.2.length : Int)) rfl (by kernel_rfl) (by kernel_rfl) (by kernel_rfl) (fun _ _ _ h => h) (Or.inl ⟨by rfl, ?_⟩) (by assumption) ?_
            · intro w9 hSw
              go_simp
            simp only [Act.put]
            refine wpAnyH_ready (rs := [5, 7]) (by kernel_rfl) (by simp) ?_
            refine (AllReadyH.cons rfl (fun K hK => ?_) (AllReadyH.cons rfl (fun K hK => ?_) AllReadyH.nil))
            · go_simp
              refine (HV.out _ HR.out).mono ?_
              rintro e' w3 ⟨rfl, b3⟩
              exact ⟨rfl, rfl, Jr.grown_trans HM.out.grown b3⟩
            · have HM7 := Lib.hid (HM.out.still (Jr.grown_some (World.grownBy_alloc v0 (.cells #[.int .i64 0, .int .i64 0, .int .u64 0, .string ⟨#[]⟩, .slice none 0 0, .slice none 0 0] 29) none) (some g)))
              have HR7 := Lib.hid (HR.out.on (World.grownBy_alloc v0 (.cells #[.int .i64 0, .int .i64 0, .int .u64 0, .string ⟨#[]⟩, .slice none 0 0, .slice none 0 0] 29) none))
              have HZ := Lib.hid (Vm.Has.new v0 (.cells #[.int .i64 0, .int .i64 0, .int .u64 0, .string ⟨#[]⟩, .slice none 0 0, .slice none 0 0] 29) _ rfl)
              have HG1 : Hid (w.heap.size + 4 ≤ v0.heap.size) := HM.out.size
              go_simp
              refine hK.out _ _ ⟨HM7.out.rp.cell 0 rfl, HM7.out.dp.cell 0 rfl⟩ (fun hHeld => ?_)
              clear hK K HM HR
              generalize v0.alloc (.cells #[.int .i64 0, .int .i64 0, .int .u64 0, .string ⟨#[]⟩, .slice none 0 0, .slice none 0 0] 29) = w7 at *
              generalize v0.heap.size = g1 at *
              rename Hid (Jr.Mem _ _ _ _ _ _ _ _) => HM
              rename Hid (Jr.Rd _ _ _ _) => HR
              refine wpAnyH_ready (rs := [5]) (by kernel_rfl) (by simp) ?_
              refine (AllReadyH.cons rfl (fun K hK => ?_) AllReadyH.nil)
              · go_simp
                refine (HV.out _ HR.out).mono ?_
                rintro e' w3 ⟨rfl, b3⟩
                exact ⟨rfl, rfl, Jr.grown_trans HM.out.grown b3⟩
          · go_simp
            refine (HV.out _ HR.out).mono ?_
            rintro e' w3 ⟨rfl, b3⟩
            exact ⟨rfl, rfl, Jr.grown_trans HM.out.grown b3⟩
          · have HM7 := Lib.hid (HM.out.still (Jr.grown_some (World.grownBy_alloc v0 (.cells #[.int .i64 0, .int .i64 0, .int .u64 0, .string ⟨#[]⟩, .slice none 0 0, .slice none 0 0] 29) none) (some g)))
            have HR7 := Lib.hid (HR.out.on (World.grownBy_alloc v0 (.cells #[.int .i64 0, .int .i64 0, .int .u64 0, .string ⟨#[]⟩, .slice none 0 0, .slice none 0 0] 29) none))
            have HZ := Lib.hid (Vm.Has.new v0 (.cells #[.int .i64 0, .int .i64 0, .int .u64 0, .string ⟨#[]⟩, .slice none 0 0, .slice none 0 0] 29) _ rfl)
            have HG1 : Hid (w.heap.size + 4 ≤ v0.heap.size) := HM.out.size
            go_simp
            refine hK.out _ _ ⟨HM7.out.rp.cell 0 rfl, HM7.out.dp.cell 0 rfl⟩ (fun hHeld => ?_)
            clear hK K HM HR
            generalize v0.alloc (.cells #[.int .i64 0, .int .i64 0, .int .u64 0, .string ⟨#[]⟩, .slice none 0 0, .slice none 0 0] 29) = w7 at *
            generalize v0.heap.size = g1 at *
            rename Hid (Jr.Mem _ _ _ _ _ _ _ _) => HM
            rename Hid (Jr.Rd _ _ _ _) => HR
            refine wpAnyH_ready (rs := [1, 5]) (by kernel_rfl) (by simp) ?_
            refine (AllReadyH.cons rfl (fun K hK => ?_) (AllReadyH.cons rfl (fun K hK => ?_) AllReadyH.nil))
            · have c4 := HM.out.var.cells.2.2.2.2.1
              go_simp
              refine hK.out _ _ ⟨HM.out.rp.cell 0 rfl, HM.out.dp.cell 0 rfl⟩ (fun hHeld => ?_)
              clear hK K c4
              refine wpAnyH_take (i := 6) (v := .int .i64 (s1.2.length : Int)) rfl (by kernel_rfl) (by kernel_rfl) (by kernel_rfl) (fun _ _ _ h => h) (Or.inl ⟨by rfl, ?_⟩) (by assumption) ?_
              · intro w9 hSw
                go_simp
              simp only [Act.put]
              refine wpAnyH_ready (rs := [5]) (by kernel_rfl) (by simp) ?_
              refine (AllReadyH.cons rfl (fun K hK => ?_) AllReadyH.nil)
              · go_simp
                refine (HV.out _ HR.out).mono ?_
                rintro e' w3 ⟨rfl, b3⟩
                exact ⟨rfl, rfl, Jr.grown_trans HM.out.grown b3⟩
            · go_simp
              refine (HV.out _ HR.out).mono ?_
              rintro e' w3 ⟨rfl, b3⟩
              exact ⟨rfl, rfl, Jr.grown_trans HM.out.grown b3⟩
        | some p =>
          obtain ⟨t, r⟩ := p
          rw [hval] at HV HO
          have e9 : some ((s.1 ++ [(⟨kb.toArray⟩ : ByteArray)], s.2 ++ [t]), r) = O := HO.out
          subst e9
          clear hval HO
          go_wp2_with (first | (go_at_call 32; refine bl2.mono ?_; rintro e5 w5 ⟨rfl, b5, q5⟩; have HM6 := Lib.hid (HM5.out.still b5); have c6 := HM6.out.rp.cell 0 (v := .pointer (some ⟨g, 0, none⟩)) rfl; replace wd := wd _ q5; clear b5 q5 bl2 c0) | (go_at_call 40; refine wd.mono ?_; rintro e6 w6 ⟨rfl, b6, q6⟩; have HM := Lib.hid ((HM6.out.still b6).still (Jr.grown_some (Jr.grown_drew w6) (some g))); have HR := Lib.hid (q6.on (Jr.grown_drew w6)); have hS0 : w6.drew.cell? ⟨w.heap.size, 0, none⟩ = some (.pointer (some ⟨g, 0, none⟩)) ∧ w6.drew.cell? ⟨w.heap.size + 1, 0, none⟩ = some (.int .i64 (e : Int)) := ⟨HM.out.rp.cell 0 rfl, HM.out.dp.cell 0 rfl⟩; clear b6 q6 wd c6))
          refine wp_region_held_drew (S := (fun r => r.cell? ⟨w.heap.size, 0, none⟩ = some (.pointer (some ⟨g, 0, none⟩)) ∧ r.cell? ⟨w.heap.size + 1, 0, none⟩ = some (.int .i64 (e : Int)))) (by kernel_rfl) hS0 (fun hHeld => ?_)
          clear hS0
          generalize w6.drew = v0 at *
          refine wpAnyH_take (i := 0) (v := .pointer (some ⟨w.heap.size + 1 + 1 + 1, 4, none⟩)) rfl (by kernel_rfl) (by kernel_rfl) (by kernel_rfl) (fun _ _ _ h => h) (Or.inl ⟨by rfl, ?_⟩) (by assumption) ?_
          · intro w9 hSw
            go_simp
          simp only [Act.put]
          refine wpAnyH_take (i := 2) (v := .pointer (some ⟨g, 0, none⟩)) rfl (by kernel_rfl) (by kernel_rfl) (by kernel_rfl) (fun _ _ _ h => h) (Or.inl ⟨by rfl, ?_⟩) (by assumption) ?_
          · intro w9 hSw
            go_simp
          simp only [Act.put]
          refine wpAnyH_take (i := 3) (v := .int .i64 (e : Int)) rfl (by kernel_rfl) (by kernel_rfl) (by kernel_rfl) (fun _ _ _ h => h) (Or.inl ⟨by rfl, ?_⟩) (by assumption) ?_
          · intro w9 hSw
            go_simp
          simp only [Act.put]
          refine wpAnyH_take (i := 4) (v := .int .i64 ((e : Int) + 1)) rfl (by kernel_rfl) (by kernel_rfl) (by kernel_rfl) (fun _ _ _ h => h) (Or.inl ⟨by rfl, ?_⟩) (by assumption) ?_
          · intro w9 hSw
            go_simp
          simp only [Act.put]
          apply Jr.share (F := (fun x g1 k3 x3 y3 s3 ai3 n3 c3 ak3 m3 d3 => Jr.Mem w g e 6 s1 (.slice ai s1.2.length ci) (.slice ak4 (s.1.length + 1) ck4) x ∧ Jr.Rd x g T r ∧ Vm.Has x g1 (.cells #[.int .i64 0, .int .i64 0, .int .u64 0, .string ⟨#[]⟩, .slice none 0 0, .slice none 0 0] 29) ∧ t.Lies x (Jr.Free (w.heap.size + 4) (.slice ai s1.2.length ci) (.slice ak4 (s.1.length + 1) ck4) x) (.agg #[.int .i64 k3, .int .i64 x3, .int .u64 (y3 : Int), .string s3, .slice ai3 n3 c3, .slice ak3 m3 d3])))
          case h1 =>
            intro fin
            refine wpAnyH_ready (rs := [1, 5, 7]) (by kernel_rfl) (by simp) ?_
            refine (AllReadyH.cons rfl (fun K hK => ?_) (AllReadyH.cons rfl (fun K hK => ?_) (AllReadyH.cons rfl (fun K hK => ?_) AllReadyH.nil)))
            · have c4 := HM.out.var.cells.2.2.2.2.1
              go_simp
              refine hK.out _ _ ⟨HM.out.rp.cell 0 rfl, HM.out.dp.cell 0 rfl⟩ (fun hHeld => ?_)
              clear hK K c4
              refine wpAnyH_take (i := 6) (v := .int .i64 (s1.2.length : Int)) rfl (by kernel_rfl) (by kernel_rfl) (by kernel_rfl) (fun _ _ _ h => h) (Or.inl ⟨by rfl, ?_⟩) (by assumption) ?_
              · intro w9 hSw
                go_simp
              simp only [Act.put]
              refine wpAnyH_ready (rs := [5, 7]) (by kernel_rfl) (by simp) ?_
              refine (AllReadyH.cons rfl (fun K hK => ?_) (AllReadyH.cons rfl (fun K hK => ?_) AllReadyH.nil))
              · go_simp
                refine (HV.out _ HR.out).mono ?_
                rintro e' w3 ⟨val, rfl, hl3, b3, q3⟩
                have HM3 := Lib.hid (HM.out.still b3)
                have HT := Lib.hid (HM.out.newTree hl3)
                obtain ⟨k3, x3, y3, s3, ai3, n3, c3, ak3, m3, d3, rfl⟩ := hl3.form
                replace HR := Lib.hid q3
                replace HM := HM3
                refine hK.out _ _ ⟨HM.out.rp.cell 0 rfl, HM.out.dp.cell 0 rfl⟩ (fun hHeld => ?_)
                clear hK K hl3 b3 q3 HM3
                refine wpAnyH_ready (rs := [7]) (by kernel_rfl) (by simp) ?_
                refine (AllReadyH.cons rfl (fun K hK => ?_) AllReadyH.nil)
                · have HM7 := Lib.hid (HM.out.still (Jr.grown_some (World.grownBy_alloc w3 (.cells #[.int .i64 0, .int .i64 0, .int .u64 0, .string ⟨#[]⟩, .slice none 0 0, .slice none 0 0] 29) none) (some g)))
                  have HR7 := Lib.hid (HR.out.on (World.grownBy_alloc w3 (.cells #[.int .i64 0, .int .i64 0, .int .u64 0, .string ⟨#[]⟩, .slice none 0 0, .slice none 0 0] 29) none))
                  have HZ := Lib.hid (Vm.Has.new w3 (.cells #[.int .i64 0, .int .i64 0, .int .u64 0, .string ⟨#[]⟩, .slice none 0 0, .slice none 0 0] 29) _ rfl)
                  have HG1 : Hid (w.heap.size + 4 ≤ w3.heap.size) := HM.out.size
                  have HT7 := Lib.hid (Jr.freeAlloc HT.out (.cells #[.int .i64 0, .int .i64 0, .int .u64 0, .string ⟨#[]⟩, .slice none 0 0, .slice none 0 0] 29))
                  go_simp
                  refine hK.out _ _ ⟨HM7.out.rp.cell 0 rfl, HM7.out.dp.cell 0 rfl⟩ (fun hHeld => ?_)
                  clear hK K HM HR HT
                  generalize w3.alloc (.cells #[.int .i64 0, .int .i64 0, .int .u64 0, .string ⟨#[]⟩, .slice none 0 0, .slice none 0 0] 29) = w7 at *
                  generalize w3.heap.size = g1 at *
                  rename Hid (Jr.Mem _ _ _ _ _ _ _ _) => HM
                  rename Hid (Jr.Rd _ _ _ _) => HR
                  rename Hid (Vt.Lies _ _ _ _) => HT
                  refine Jr.listed (L := #[true, true, true, true, true, true, true, true, false, false, false, false, false]) (by kernel_rfl) ?_
                  exact fin _ _ _ _ _ _ _ _ _ _ _ _ ⟨HM.out, HR.out, HZ.out, HT.out⟩
              · have HM7 := Lib.hid (HM.out.still (Jr.grown_some (World.grownBy_alloc v0 (.cells #[.int .i64 0, .int .i64 0, .int .u64 0, .string ⟨#[]⟩, .slice none 0 0, .slice none 0 0] 29) none) (some g)))
                have HR7 := Lib.hid (HR.out.on (World.grownBy_alloc v0 (.cells #[.int .i64 0, .int .i64 0, .int .u64 0, .string ⟨#[]⟩, .slice none 0 0, .slice none 0 0] 29) none))
                have HZ := Lib.hid (Vm.Has.new v0 (.cells #[.int .i64 0, .int .i64 0, .int .u64 0, .string ⟨#[]⟩, .slice none 0 0, .slice none 0 0] 29) _ rfl)
                have HG1 : Hid (w.heap.size + 4 ≤ v0.heap.size) := HM.out.size
                go_simp
                refine hK.out _ _ ⟨HM7.out.rp.cell 0 rfl, HM7.out.dp.cell 0 rfl⟩ (fun hHeld => ?_)
                clear hK K HM HR
                generalize v0.alloc (.cells #[.int .i64 0, .int .i64 0, .int .u64 0, .string ⟨#[]⟩, .slice none 0 0, .slice none 0 0] 29) = w7 at *
                generalize v0.heap.size = g1 at *
                rename Hid (Jr.Mem _ _ _ _ _ _ _ _) => HM
                rename Hid (Jr.Rd _ _ _ _) => HR
                refine wpAnyH_ready (rs := [5]) (by kernel_rfl) (by simp) ?_
                refine (AllReadyH.cons rfl (fun K hK => ?_) AllReadyH.nil)
                · go_simp
                  refine (HV.out _ HR.out).mono ?_
                  rintro e' w3 ⟨val, rfl, hl3, b3, q3⟩
                  have HM3 := Lib.hid (HM.out.still b3)
                  have HT := Lib.hid (HM.out.newTree hl3)
                  have HZ3 := Lib.hid (Jr.hasG HZ.out b3 (by have := HG1.out; have := HM.out.glt; omega))
                  obtain ⟨k3, x3, y3, s3, ai3, n3, c3, ak3, m3, d3, rfl⟩ := hl3.form
                  replace HR := Lib.hid q3
                  replace HM := HM3
                  replace HZ := HZ3
                  refine hK.out _ _ ⟨HM.out.rp.cell 0 rfl, HM.out.dp.cell 0 rfl⟩ (fun hHeld => ?_)
                  clear hK K hl3 b3 q3 HM3 HZ3
                  refine Jr.listed (L := #[true, true, true, true, true, true, true, true, false, false, false, false, false]) (by kernel_rfl) ?_
                  exact fin _ _ _ _ _ _ _ _ _ _ _ _ ⟨HM.out, HR.out, HZ.out, HT.out⟩
            · go_simp
              refine (HV.out _ HR.out).mono ?_
              rintro e' w3 ⟨val, rfl, hl3, b3, q3⟩
              have HM3 := Lib.hid (HM.out.still b3)
              have HT := Lib.hid (HM.out.newTree hl3)
              obtain ⟨k3, x3, y3, s3, ai3, n3, c3, ak3, m3, d3, rfl⟩ := hl3.form
              replace HR := Lib.hid q3
              replace HM := HM3
              refine hK.out _ _ ⟨HM.out.rp.cell 0 rfl, HM.out.dp.cell 0 rfl⟩ (fun hHeld => ?_)
              clear hK K hl3 b3 q3 HM3
              refine wpAnyH_ready (rs := [1, 7]) (by kernel_rfl) (by simp) ?_
              refine (AllReadyH.cons rfl (fun K hK => ?_) (AllReadyH.cons rfl (fun K hK => ?_) AllReadyH.nil))
              · have c4 := HM.out.var.cells.2.2.2.2.1
                go_simp
                refine hK.out _ _ ⟨HM.out.rp.cell 0 rfl, HM.out.dp.cell 0 rfl⟩ (fun hHeld => ?_)
                clear hK K c4
                refine wpAnyH_take (i := 6) (v := .int .i64 (s1.2.length : Int)) rfl (by kernel_rfl) (by kernel_rfl) (by kernel_rfl) (fun _ _ _ h => h) (Or.inl ⟨by rfl, ?_⟩) (by assumption) ?_
                · intro w9 hSw
                  go_simp
                simp only [Act.put]
                refine wpAnyH_ready (rs := [7]) (by kernel_rfl) (by simp) ?_
                refine (AllReadyH.cons rfl (fun K hK => ?_) AllReadyH.nil)
                · have HM7 := Lib.hid (HM.out.still (Jr.grown_some (World.grownBy_alloc w3 (.cells #[.int .i64 0, .int .i64 0, .int .u64 0, .string ⟨#[]⟩, .slice none 0 0, .slice none 0 0] 29) none) (some g)))
                  have HR7 := Lib.hid (HR.out.on (World.grownBy_alloc w3 (.cells #[.int .i64 0, .int .i64 0, .int .u64 0, .string ⟨#[]⟩, .slice none 0 0, .slice none 0 0] 29) none))
                  have HZ := Lib.hid (Vm.Has.new w3 (.cells #[.int .i64 0, .int .i64 0, .int .u64 0, .string ⟨#[]⟩, .slice none 0 0, .slice none 0 0] 29) _ rfl)
                  have HG1 : Hid (w.heap.size + 4 ≤ w3.heap.size) := HM.out.size
                  have HT7 := Lib.hid (Jr.freeAlloc HT.out (.cells #[.int .i64 0, .int .i64 0, .int .u64 0, .string ⟨#[]⟩, .slice none 0 0, .slice none 0 0] 29))
                  go_simp
                  refine hK.out _ _ ⟨HM7.out.rp.cell 0 rfl, HM7.out.dp.cell 0 rfl⟩ (fun hHeld => ?_)
                  clear hK K HM HR HT
                  generalize w3.alloc (.cells #[.int .i64 0, .int .i64 0, .int .u64 0, .string ⟨#[]⟩, .slice none 0 0, .slice none 0 0] 29) = w7 at *
                  generalize w3.heap.size = g1 at *
                  rename Hid (Jr.Mem _ _ _ _ _ _ _ _) => HM
                  rename Hid (Jr.Rd _ _ _ _) => HR
                  rename Hid (Vt.Lies _ _ _ _) => HT
                  refine Jr.listed (L := #[true, true, true, true, true, true, true, true, false, false, false, false, false]) (by kernel_rfl) ?_
                  exact fin _ _ _ _ _ _ _ _ _ _ _ _ ⟨HM.out, HR.out, HZ.out, HT.out⟩
              · have HM7 := Lib.hid (HM.out.still (Jr.grown_some (World.grownBy_alloc w3 (.cells #[.int .i64 0, .int .i64 0, .int .u64 0, .string ⟨#[]⟩, .slice none 0 0, .slice none 0 0] 29) none) (some g)))
                have HR7 := Lib.hid (HR.out.on (World.grownBy_alloc w3 (.cells #[.int .i64 0, .int .i64 0, .int .u64 0, .string ⟨#[]⟩, .slice none 0 0, .slice none 0 0] 29) none))
                have HZ := Lib.hid (Vm.Has.new w3 (.cells #[.int .i64 0, .int .i64 0, .int .u64 0, .string ⟨#[]⟩, .slice none 0 0, .slice none 0 0] 29) _ rfl)
                have HG1 : Hid (w.heap.size + 4 ≤ w3.heap.size) := HM.out.size
                have HT7 := Lib.hid (Jr.freeAlloc HT.out (.cells #[.int .i64 0, .int .i64 0, .int .u64 0, .string ⟨#[]⟩, .slice none 0 0, .slice none 0 0] 29))
                go_simp
                refine hK.out _ _ ⟨HM7.out.rp.cell 0 rfl, HM7.out.dp.cell 0 rfl⟩ (fun hHeld => ?_)
                clear hK K HM HR HT
                generalize w3.alloc (.cells #[.int .i64 0, .int .i64 0, .int .u64 0, .string ⟨#[]⟩, .slice none 0 0, .slice none 0 0] 29) = w7 at *
                generalize w3.heap.size = g1 at *
                rename Hid (Jr.Mem _ _ _ _ _ _ _ _) => HM
                rename Hid (Jr.Rd _ _ _ _) => HR
                rename Hid (Vt.Lies _ _ _ _) => HT
                refine wpAnyH_ready (rs := [1]) (by kernel_rfl) (by simp) ?_
                refine (AllReadyH.cons rfl (fun K hK => ?_) AllReadyH.nil)
                · have c4 := HM.out.var.cells.2.2.2.2.1
                  go_simp
                  refine hK.out _ _ ⟨HM.out.rp.cell 0 rfl, HM.out.dp.cell 0 rfl⟩ (fun hHeld => ?_)
                  clear hK K c4
                  refine wpAnyH_take (i := 6) (v := .int .i64 (s1.2.length : Int)) rfl (by kernel_rfl) (by kernel_rfl) (by kernel_rfl) (fun _ _ _ h => h) (Or.inl ⟨by rfl, ?_⟩) (by assumption) ?_
                  · intro w9 hSw
                    go_simp
                  simp only [Act.put]
                  refine Jr.listed (L := #[true, true, true, true, true, true, true, true, false, false, false, false, false]) (by kernel_rfl) ?_
                  exact fin _ _ _ _ _ _ _ _ _ _ _ _ ⟨HM.out, HR.out, HZ.out, HT.out⟩
            · have HM7 := Lib.hid (HM.out.still (Jr.grown_some (World.grownBy_alloc v0 (.cells #[.int .i64 0, .int .i64 0, .int .u64 0, .string ⟨#[]⟩, .slice none 0 0, .slice none 0 0] 29) none) (some g)))
              have HR7 := Lib.hid (HR.out.on (World.grownBy_alloc v0 (.cells #[.int .i64 0, .int .i64 0, .int .u64 0, .string ⟨#[]⟩, .slice none 0 0, .slice none 0 0] 29) none))
              have HZ := Lib.hid (Vm.Has.new v0 (.cells #[.int .i64 0, .int .i64 0, .int .u64 0, .string ⟨#[]⟩, .slice none 0 0, .slice none 0 0] 29) _ rfl)
              have HG1 : Hid (w.heap.size + 4 ≤ v0.heap.size) := HM.out.size
              go_simp
              refine hK.out _ _ ⟨HM7.out.rp.cell 0 rfl, HM7.out.dp.cell 0 rfl⟩ (fun hHeld => ?_)
              clear hK K HM HR
              generalize v0.alloc (.cells #[.int .i64 0, .int .i64 0, .int .u64 0, .string ⟨#[]⟩, .slice none 0 0, .slice none 0 0] 29) = w7 at *
              generalize v0.heap.size = g1 at *
              rename Hid (Jr.Mem _ _ _ _ _ _ _ _) => HM
              rename Hid (Jr.Rd _ _ _ _) => HR
              refine wpAnyH_ready (rs := [1, 5]) (by kernel_rfl) (by simp) ?_
              refine (AllReadyH.cons rfl (fun K hK => ?_) (AllReadyH.cons rfl (fun K hK => ?_) AllReadyH.nil))
              · have c4 := HM.out.var.cells.2.2.2.2.1
                go_simp
                refine hK.out _ _ ⟨HM.out.rp.cell 0 rfl, HM.out.dp.cell 0 rfl⟩ (fun hHeld => ?_)
                clear hK K c4
                refine wpAnyH_take (i := 6) (v := .int .i64 (s1.2.length : Int)) rfl (by kernel_rfl) (by kernel_rfl) (by kernel_rfl) (fun _ _ _ h => h) (Or.inl ⟨by rfl, ?_⟩) (by assumption) ?_
                · intro w9 hSw
                  go_simp
                simp only [Act.put]
                refine wpAnyH_ready (rs := [5]) (by kernel_rfl) (by simp) ?_
                refine (AllReadyH.cons rfl (fun K hK => ?_) AllReadyH.nil)
                · go_simp
                  refine (HV.out _ HR.out).mono ?_
                  rintro e' w3 ⟨val, rfl, hl3, b3, q3⟩
                  have HM3 := Lib.hid (HM.out.still b3)
                  have HT := Lib.hid (HM.out.newTree hl3)
                  have HZ3 := Lib.hid (Jr.hasG HZ.out b3 (by have := HG1.out; have := HM.out.glt; omega))
                  obtain ⟨k3, x3, y3, s3, ai3, n3, c3, ak3, m3, d3, rfl⟩ := hl3.form
                  replace HR := Lib.hid q3
                  replace HM := HM3
                  replace HZ := HZ3
                  refine hK.out _ _ ⟨HM.out.rp.cell 0 rfl, HM.out.dp.cell 0 rfl⟩ (fun hHeld => ?_)
                  clear hK K hl3 b3 q3 HM3 HZ3
                  refine Jr.listed (L := #[true, true, true, true, true, true, true, true, false, false, false, false, false]) (by kernel_rfl) ?_
                  exact fin _ _ _ _ _ _ _ _ _ _ _ _ ⟨HM.out, HR.out, HZ.out, HT.out⟩
              · go_simp
                refine (HV.out _ HR.out).mono ?_
                rintro e' w3 ⟨val, rfl, hl3, b3, q3⟩
                have HM3 := Lib.hid (HM.out.still b3)
                have HT := Lib.hid (HM.out.newTree hl3)
                have HZ3 := Lib.hid (Jr.hasG HZ.out b3 (by have := HG1.out; have := HM.out.glt; omega))
                obtain ⟨k3, x3, y3, s3, ai3, n3, c3, ak3, m3, d3, rfl⟩ := hl3.form
                replace HR := Lib.hid q3
                replace HM := HM3
                replace HZ := HZ3
                refine hK.out _ _ ⟨HM.out.rp.cell 0 rfl, HM.out.dp.cell 0 rfl⟩ (fun hHeld => ?_)
                clear hK K hl3 b3 q3 HM3 HZ3
                refine wpAnyH_ready (rs := [1]) (by kernel_rfl) (by simp) ?_
                refine (AllReadyH.cons rfl (fun K hK => ?_) AllReadyH.nil)
                · have c4 := HM.out.var.cells.2.2.2.2.1
                  go_simp
                  refine hK.out _ _ ⟨HM.out.rp.cell 0 rfl, HM.out.dp.cell 0 rfl⟩ (fun hHeld => ?_)
                  clear hK K c4
                  refine wpAnyH_take (i := 6) (v := .int .i64 (s1.2.length : Int)) rfl (by kernel_rfl) (by kernel_rfl) (by kernel_rfl) (fun _ _ _ h => h) (Or.inl ⟨by rfl, ?_⟩) (by assumption) ?_
                  · intro w9 hSw
                    go_simp
                  simp only [Act.put]
                  refine Jr.listed (L := #[true, true, true, true, true, true, true, true, false, false, false, false, false]) (by kernel_rfl) ?_
                  exact fin _ _ _ _ _ _ _ _ _ _ _ _ ⟨HM.out, HR.out, HZ.out, HT.out⟩
          case h2 =>
            clear HM HR HV
            rintro w7 g1 k3 x3 y3 s3 ai3 n3 c3 ak3 m3 d3 ⟨hm7, hr7, hz7, ht7⟩
            have HM := Lib.hid hm7
            have HR := Lib.hid hr7
            have HZ := Lib.hid hz7
            have HT := Lib.hid ht7
            clear hm7 hr7 hz7 ht7 hHeld
            obtain ⟨xs, hx, hi⟩ := HM.out.items
            refine wpAnyH_ready (rs := [8]) (by kernel_rfl) (by simp) ?_
            refine AllReadyH.cons rfl (fun K hK => ?_) AllReadyH.nil
            rw [if_pos (by simp [Region.wanted])]
            refine Jr.wp_app 26 29 (.agg #[.int .i64 0, .int .i64 0, .int .u64 0, .string ⟨#[]⟩, .slice none 0 0, .slice none 0 0]) 6 88 Tryd.underlying26 Vc.infoV (by decide) rfl _ _ rfl (.slice ai s1.2.length ci) rfl hx g1 [.int .i64 0, .int .i64 0, .int .u64 0, .string ⟨#[]⟩, .slice none 0 0, .slice none 0 0] rfl rfl (Jr.zero_cells HZ.out) Jr.zero_one (by omega) (by unfold maxLen; omega) HM.out.size ?_
            intro vi4 w4 ho4 hgr4 hf4
            obtain ⟨G, cap, rfl, hG4, z0, z1, z2, z3, z4, z5, fz⟩ := Jr.new_cells hx.1 ho4
            have HX4 := Lib.hid (HM.out.box4 hx hgr4)
            have c4 := HX4.out.cells.2.2.2.2.1
            have f4 := HX4.out.has.frozen 4
            have fz0 := fz (s1.2.length * 6)
            have fz1 := fz (s1.2.length * 6 + 1)
            have fz2 := fz (s1.2.length * 6 + 2)
            have fz3 := fz (s1.2.length * 6 + 3)
            have fz4 := fz (s1.2.length * 6 + 4)
            have fz5 := fz (s1.2.length * 6 + 5)
            have hb9 : ¬ ((s1.2.length : Int) + 1 ≤ (s1.2.length : Int)) := by omega
            have hGb : w.heap.size + 1 + 1 + 1 ≠ G := by omega
            have hbG : (⟨w.heap.size + 1 + 1 + 1, 4, none⟩ : Addr).block ≠ G := hGb
            have HS4 := Lib.hid (HM.out.low4 hx hgr4)
            have HO4 := Lib.hid ho4
            have HGR := Lib.hid hgr4
            have HF := Lib.hid hf4
            have HX := Lib.hid hx
            have HI := Lib.hid hi
            refine hK.out _ _ HS4.out (fun hHeld => ?_)
            clear hK K ho4 hgr4 hf4 hx hi fz
            refine wpAnyH_take (i := 9) (v := .pointer (some ⟨G, s1.2.length * 6, none⟩)) rfl (by kernel_rfl) (by kernel_rfl) (by kernel_rfl) (fun _ _ _ h => h) (Or.inl ⟨by rfl, ?_⟩) (by assumption) ?_
            · intro w9 hSw
              go_simp
            simp only [Act.put]
            refine wpAnyH_take (i := 11) (v := .pointer (some ⟨w.heap.size + 1 + 1 + 1, 4, none⟩)) rfl (by kernel_rfl) (by kernel_rfl) (by kernel_rfl) (fun _ _ _ h => h) (Or.inl ⟨by rfl, ?_⟩) (by assumption) ?_
            · intro w9 hSw
              go_simp
            simp only [Act.put]
            refine wpAnyH_ready (rs := [10, 12]) (by kernel_rfl) (by simp) ?_
            refine (AllReadyH.cons rfl (fun K hK => ?_) (AllReadyH.cons rfl (fun K hK => ?_) AllReadyH.nil))
            · go_simp
              have HQ := Lib.hid (Jr.six_other w4 G (s1.2.length * 6) (.int .i64 k3) (.int .i64 x3) (.int .u64 (y3 : Int)) (.string s3) (.slice ai3 n3 c3) (.slice ak3 m3 d3))
              have c46 := HX4.out.cellQ HQ.out hGb 4
              have f46 := HX4.out.frozenQ HQ.out hGb 4
              refine hK.out _ _ (Jr.lowQ HS4.out HQ.out (by omega) (by omega)) (fun hHeld => ?_)
              clear hK K
              have HFIN := Lib.hid (HM.out.fin1 t HT.out HX.out HI.out HGR.out HF.out HO4.out HR.out)
              clear z0 z1 z2 z3 z4 z5 fz0 fz1 fz2 fz3 fz4 fz5 c4 f4
              generalize hW6 : ((((((w4.setCell ⟨G, s1.2.length * 6, none⟩ (.int .i64 k3)).setCell ⟨G, s1.2.length * 6 + 1, none⟩ (.int .i64 x3)).setCell ⟨G, s1.2.length * 6 + 2, none⟩ (.int .u64 (y3 : Int))).setCell ⟨G, s1.2.length * 6 + 3, none⟩ (.string s3)).setCell ⟨G, s1.2.length * 6 + 4, none⟩ (.slice ai3 n3 c3)).setCell ⟨G, s1.2.length * 6 + 5, none⟩ (.slice ak3 m3 d3)) = W6 at *
              refine wpAnyH_ready (rs := [12]) (by kernel_rfl) (by simp) ?_
              refine AllReadyH.cons rfl (fun K hK => ?_) AllReadyH.nil
              go_simp
              refine hK.out _ _ (Jr.lowS hHeld _ _ _ (by omega) (by omega)) (fun hHeld => ?_)
              refine wpAnyH_done (by kernel_rfl) ?_ _
              first | go_end0 | refine bodyPost_ret (results_none rfl _ _ _) rfl ?_
              exact ⟨rfl, Jr.fin_rec HFIN.out.1 (HSE.out t) (HLEN.out t), HFIN.out.2⟩
            · go_simp
              have HFIN := Lib.hid (HM.out.fin2 t HT.out HX.out HI.out HGR.out HF.out HO4.out HR.out)
              refine hK.out _ _ (Jr.lowS HS4.out _ _ _ (by omega) (by omega)) (fun hHeld => ?_)
              clear hK K
              replace z0 := (World.cell?_setCell_far w4 ⟨w.heap.size + 1 + 1 + 1, 4, none⟩ ⟨G, s1.2.length * 6, none⟩ (.slice (some ⟨G, 0, none⟩) (s1.2.length + 1) cap) hbG).trans z0
              replace z1 := (World.cell?_setCell_far w4 ⟨w.heap.size + 1 + 1 + 1, 4, none⟩ ⟨G, s1.2.length * 6 + 1, none⟩ (.slice (some ⟨G, 0, none⟩) (s1.2.length + 1) cap) hbG).trans z1
              replace z2 := (World.cell?_setCell_far w4 ⟨w.heap.size + 1 + 1 + 1, 4, none⟩ ⟨G, s1.2.length * 6 + 2, none⟩ (.slice (some ⟨G, 0, none⟩) (s1.2.length + 1) cap) hbG).trans z2
              replace z3 := (World.cell?_setCell_far w4 ⟨w.heap.size + 1 + 1 + 1, 4, none⟩ ⟨G, s1.2.length * 6 + 3, none⟩ (.slice (some ⟨G, 0, none⟩) (s1.2.length + 1) cap) hbG).trans z3
              replace z4 := (World.cell?_setCell_far w4 ⟨w.heap.size + 1 + 1 + 1, 4, none⟩ ⟨G, s1.2.length * 6 + 4, none⟩ (.slice (some ⟨G, 0, none⟩) (s1.2.length + 1) cap) hbG).trans z4
              replace z5 := (World.cell?_setCell_far w4 ⟨w.heap.size + 1 + 1 + 1, 4, none⟩ ⟨G, s1.2.length * 6 + 5, none⟩ (.slice (some ⟨G, 0, none⟩) (s1.2.length + 1) cap) hbG).trans z5
              replace fz0 := (Jr.frozen_set w4 ⟨w.heap.size + 1 + 1 + 1, 4, none⟩ (.slice (some ⟨G, 0, none⟩) (s1.2.length + 1) cap) ⟨G, s1.2.length * 6, none⟩).trans fz0
              replace fz1 := (Jr.frozen_set w4 ⟨w.heap.size + 1 + 1 + 1, 4, none⟩ (.slice (some ⟨G, 0, none⟩) (s1.2.length + 1) cap) ⟨G, s1.2.length * 6 + 1, none⟩).trans fz1
              replace fz2 := (Jr.frozen_set w4 ⟨w.heap.size + 1 + 1 + 1, 4, none⟩ (.slice (some ⟨G, 0, none⟩) (s1.2.length + 1) cap) ⟨G, s1.2.length * 6 + 2, none⟩).trans fz2
              replace fz3 := (Jr.frozen_set w4 ⟨w.heap.size + 1 + 1 + 1, 4, none⟩ (.slice (some ⟨G, 0, none⟩) (s1.2.length + 1) cap) ⟨G, s1.2.length * 6 + 3, none⟩).trans fz3
              replace fz4 := (Jr.frozen_set w4 ⟨w.heap.size + 1 + 1 + 1, 4, none⟩ (.slice (some ⟨G, 0, none⟩) (s1.2.length + 1) cap) ⟨G, s1.2.length * 6 + 4, none⟩).trans fz4
              replace fz5 := (Jr.frozen_set w4 ⟨w.heap.size + 1 + 1 + 1, 4, none⟩ (.slice (some ⟨G, 0, none⟩) (s1.2.length + 1) cap) ⟨G, s1.2.length * 6 + 5, none⟩).trans fz5
              clear c4 f4
              generalize w4.setCell ⟨w.heap.size + 1 + 1 + 1, 4, none⟩ (.slice (some ⟨G, 0, none⟩) (s1.2.length + 1) cap) = W5 at *
              refine wpAnyH_ready (rs := [10]) (by kernel_rfl) (by simp) ?_
              refine AllReadyH.cons rfl (fun K hK => ?_) AllReadyH.nil
              go_simp
              refine hK.out _ _ (Jr.lowQ hHeld (Jr.six_other W5 G (s1.2.length * 6) _ _ _ _ _ _) (by omega) (by omega)) (fun hHeld => ?_)
              refine wpAnyH_done (by kernel_rfl) ?_ _
              first | go_end0 | refine bodyPost_ret (results_none rfl _ _ _) rfl ?_
              exact ⟨rfl, Jr.fin_rec HFIN.out.1 (HSE.out t) (HLEN.out t), HFIN.out.2⟩
      · rw [if_neg h58] at HO
        have e9 : none = O := HO.out
        subst e9
        clear HO
        have wd := fun u q => Jr.word_no ⟨#[58]⟩ (Js.ws r1) (Bool.eq_false_iff.2 h58) g T u q
        clear h58 HVV
        go_wp2_with (first | (go_at_call 32; refine bl2.mono ?_; rintro e5 w5 ⟨rfl, b5, q5⟩; have HM6 := Lib.hid (HM5.out.still b5); have c6 := HM6.out.rp.cell 0 (v := .pointer (some ⟨g, 0, none⟩)) rfl; replace wd := wd _ q5; clear b5 q5 bl2 c0) | (go_at_call 40; refine wd.mono ?_; rintro e6 w6 ⟨rfl, b6⟩; have HK6 := Lib.hid (Jr.grown_trans HM6.out.grown b6); clear b6 wd))
        exact ⟨rfl, rfl, HK6.out⟩
end Go.Proofs.YtiajclmhimkpnaaDoor

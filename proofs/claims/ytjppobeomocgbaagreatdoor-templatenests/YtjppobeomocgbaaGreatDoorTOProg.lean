/-
  words.Words: THE CONTRACT, of the landed program: what its reader's words gives, recovered from what it throws.
-/
import Derived.Test.YtjppobeomocgbaaGreatDoorTXOnetoXCatch
import Derived.Deep.RegionLaw
import Derived.Deep.RegionHeld
import Derived.Deep.RegionWith
namespace Go.Proofs.YtjppobeomocgbaaGreatDoor
open Go.RowKit
theorem Xr.go_one {S : List UInt8} {i n p : Nat} {out : List Wo} (hn : 0 < n) (hp : Lx.skip i (S.drop i) = p) (h : p < S.length) : Wx.go n S i out = match Xr.one S p with | .error e => .error e | .ok (w, j) => Wx.go (n - 1) S j (out ++ [w]) := by
  rw [Wx.go_word hn hp h]
  unfold Xr.one
  cases Wx.word S p with
  | error e => rfl
  | ok q =>
    obtain ⟨w, j⟩ := q
    simp only
    split <;> rfl
theorem Xr.one_lt {S : List UInt8} {i j : Nat} {x : Wo} (h : Xr.one S i = .ok (x, j)) : i < j := by
  unfold Xr.one at h
  cases hx : Wx.word S i with
  | error e => rw [hx] at h; cases h
  | ok q =>
    obtain ⟨w, k⟩ := q
    have := Wx.word_lt hx
    rw [hx] at h
    simp only at h
    split at h
    · injection h with h
      injection h with _ h
      omega
    · cases h
theorem Xr.own_form {w : World} {base n size : Nat} {v : Value} {ys : List Value} {e : TypeId} (h : w.ownsRow base e size v n ys) : ∃ a n d, v = .slice a n d := by
  rcases h.2 with ⟨rfl, _⟩ | ⟨gg, cap, cur, rfl, _⟩
  · exact ⟨_, _, _, rfl⟩
  · exact ⟨_, _, _, rfl⟩
theorem Xr.under {w3 w7 : World} {base b n : Nat} {v : Value} {ys : List Value} {e T : TypeId} {size : Nat} {ob : Obj} {cs : Array Value} (ho : w3.ownsRow base e size v n ys) (hg : (w3.alloc ob).grownBy w7 v.ownBlock) (hB : Bs.Box w3 b cs T) (hb : b < base) : Bs.Box w7 b cs T :=
  ((hg.block b (by have := hB.lt; simp; omega) (fun q => by have := (ho.lt b q.symm).1; omega)).trans (Below.heap_alloc _ _ _ hB.lt)).trans hB
/-- a word more -/
theorem Xr.Ws.push {w w3 w7 : World} {g lo p nn d : Nat} {s : ByteArray} {v v7 : Value} {ws : List Wo} {x : Wo} {aa : Option Addr} {ob : Obj} (h : Xr.Ws w w3 g s p v ws) (hL : St.Lies w3 (fun b => lo ≤ b ∧ b < w3.heap.size ∧ Rm.Ub w3 b) x.path (.slice aa nn d)) (hol : ∀ k, v.ownBlock = some k → k < lo) (hlo : w.heap.size + 2 ≤ lo)
    (hown : ∀ xs, w3.ownsRow (w.heap.size + 2) 91 4 v ws.length xs → w7.ownsRow (w.heap.size + 2) 91 4 v7 (ws.length + 1) (xs ++ Wo.four x (.slice aa nn d)))
    (hg : (w3.alloc ob).grownBy w7 v.ownBlock) (hf : v7.ownBlock = v.ownBlock ∨ v7.ownBlock = some (w3.alloc ob).heap.size) : Xr.Ws w (w7.setCell ⟨w.heap.size, 0, none⟩ v7) g s p v7 (ws ++ [x]) := by
  have hlt := h.lt
  obtain ⟨ys, ho, -⟩ := id h.row
  have hup := Wo.Row.push (x := x) h.row (Xr.row_own h.row (by omega)) h.at_.lt (hL.on fun k hk => ⟨⟨by omega, hk.2.1, fun q => by have := hol k q; omega, by omega, hk.2.2⟩, rfl⟩) hown hg (hf.imp id (fun q => by rw [q]; simp))
  have hB : Bs.Box w7 g _ _ := Xr.under ho hg h.at_.box (by omega)
  have hC : Bs.Box w7 w.heap.size _ _ := Xr.under ho hg h.cell (by omega)
  have hE : Bs.Box w7 (w.heap.size + 1) _ _ := Xr.under ho hg h.err (by omega)
  have hz : w3.heap.size ≤ w7.heap.size := by have := hg.size; simp at this; omega
  have hK : Cu.Kept w w7 g := ⟨hg.os.trans h.at_.kept.os, hg.tape.trans h.at_.kept.tape, hg.output.trans h.at_.kept.output, Nat.le_trans h.at_.kept.size hz, fun k hk hne => ((hg.block k (by have := h.at_.kept.size; simp; omega) (fun q => by have := (ho.lt k q.symm).1; omega)).trans (Below.heap_alloc _ _ _ (by have := h.at_.kept.size; omega))).trans (h.at_.kept.block k hk hne)⟩
  exact ⟨(⟨hB, hK, h.at_.le⟩ : Xr.At w w7 g s p).setV w.heap.size 0 v7 (Nat.le_refl _) (by omega), hC.set 0 _, (Below.heap_setCell _ _ _ _ (by show w.heap.size + 1 ≠ w.heap.size; omega)).trans hE, Xr.row_set hup.1 (by omega) (by omega) _, hlt⟩
set_option maxRecDepth 100000 in
set_option maxHeartbeats 8000000 in
theorem Xr.words {w : World} {g : Nat} {s : ByteArray} (h : Xr.At w w g s 0) (hs : s.size ≤ 1099511627776) :
    Calls Tryz.prog 53 #[.pointer (some ⟨g, 0, none⟩)] w (Xr.Res (Wx.go (s.size + 1) s.data.toList 0 []) w g) := by
  have hmf : ∀ (fn : Fn) (first cap : Array Value) (w : World), (Instr.makeFunc fn first cap).run Tryz.prog w = .ok (.func fn first cap) w := fun _ _ _ _ => rfl
  have hgw := h.lt
  obtain ⟨G, hG⟩ : ∃ G, Wx.go (s.size + 1) s.data.toList 0 [] = G := ⟨_, rfl⟩
  rw [hG]
  have HG := Lib.hid hG
  obtain ⟨W0, hW0⟩ : ∃ W0, (w.alloc (.cells #[.slice none 0 0] 79)).alloc (.cells #[.int .i64 0] 23) = W0 := ⟨_, rfl⟩
  have HS0 : Hid (Xr.Ws w W0 g s 0 (.slice none 0 0) []) := by
    rw [← hW0]
    exact ⟨(h.then ((Below.refl _ _).alloc (Nat.le_refl _) _)).then ((Below.refl _ _).alloc (Nat.le_refl _) _), (Bs.Box.new _ _ _ _ rfl).alloc _, Bs.Box.new _ _ _ _ (by simp), Wo.Row.nil _ _ _, hgw⟩
  have bl := Xr.skipBlanks HS0.out.at_.start hs
  obtain ⟨p0, hp0⟩ : ∃ p0, Lx.skip 0 (s.data.toList.drop 0) = p0 := ⟨_, rfl⟩
  rw [hp0] at bl
  have HP0 := Lib.hid hp0
  have blL := fun u p (q : Xr.At u u g s p) => Xr.skipBlanks q hs
  clear h hG hp0
  go_enter_defers Tryz.func53, Tryz.ntmps53
  go_wp2_with (go_at_call 81; refine bl.mono ?_; rintro e w1 ⟨rfl, a1⟩; have HS1 := Lib.hid (HS0.out.then a1); clear a1 bl)
  clear hW0 HS0
  go_loopw [] (fun wr => ∃ (q p n : Nat) (ws : List Wo) (v : Value), q ≤ p ∧ s.size < q + n ∧ ws.length ≤ q ∧ Hid (Xr.Ws w wr g s p v ws) ∧ Hid (Lx.skip q (s.data.toList.drop q) = p) ∧ Hid (Wx.go n s.data.toList q ws = G)) (fun wr => s.size - Xr.place g wr)
  case atStart => exact ⟨0, p0, s.size + 1, [], _, Nat.zero_le _, by omega, Nat.zero_le _, HS1, HP0, HG⟩
  case round =>
    clear HS1 HP0 HG
    obtain ⟨q, p, n, ws, v, hqp, hqn, hwq, HS, HP, HG⟩ := hrel
    have HM := Lib.hid (Xr.place_eq HS.out.at_)
    have ov := Xr.isOver HS.out.at_
    have hps := HS.out.at_.le
    obtain ⟨va, vd, hv⟩ := HS.out.row.form
    obtain ⟨vn, hvn⟩ : ∃ vn, ws.length = vn := ⟨_, rfl⟩
    rw [hvn] at hv
    have HV := Lib.hid hv
    subst hv
    have HVN := Lib.hid hvn
    rw [hvn] at hwq
    clear hvn HV
    by_cases hlt : p < s.size
    · rw [decide_eq_false (by omega)] at ov
      have HGO := Lib.hid (Xr.go_one (n := n) (out := ws) (by omega) HP.out (by rw [Wk.len_data]; exact hlt))
      rw [HG.out] at HGO
      have wd := fun u (q : Xr.At u u g s p) => Xr.word q hlt hs
      clear HG
      cases hx : Xr.one s.data.toList p with
      | error x =>
        have hG : .error x = G := by rw [HGO.out, hx]
        subst hG
        rw [hx] at wd
        clear HGO hx
        go_upto_region 5 with (go_at_call 82; refine ov.mono ?_; rintro e w2 ⟨rfl, n2, rfl⟩; have HS2 := Lib.hid (HS.out.drewN n2); clear ov HS; generalize wr.drewN n2 = w2 at *)
        have c0 : w2.cell? ⟨w.heap.size, 0, none⟩ = some (.slice va vn vd) := HS2.out.cell.cell 0 rfl
        have HD : Hid (Xr.Ws w w2.drew g s p (.slice va vn vd) ws) := HS2.out.drewN 1
        replace wd := wd w2.drew HD.out.at_.start
        refine wp_region_held_drew (S := fun _ => True) (by kernel_rfl) trivial (fun hHeld => ?_)
        generalize w2.drew = v0 at *
        have d0 : v0.cell? ⟨w.heap.size, 0, none⟩ = some (.slice va vn vd) := HD.out.cell.cell 0 rfl
        refine wpAnyH_ready (rs := [0, 1]) (by kernel_rfl) (by simp) ?_
        refine (AllReadyH.cons rfl (fun K hK => ?_) (AllReadyH.cons rfl (fun K hK => ?_) AllReadyH.nil))
        · skip
          go_simp
          refine hK.out _ _ trivial (fun hHeld => ?_)
          clear hK K
          refine wpAnyH_ready (rs := [1]) (by kernel_rfl) (by simp) ?_
          refine (AllReadyH.cons rfl (fun K hK => ?_) AllReadyH.nil)
          go_simp
          refine hK.out _ _ trivial (fun hHeld => ?_)
          clear hK K
          refine wpAnyH_ready (rs := [2]) (by kernel_rfl) (by simp) ?_
          refine (AllReadyH.cons rfl (fun K hK => ?_) AllReadyH.nil)
          go_simp
          refine wd.mono ?_
          rintro e w3 ⟨rfl, k3⟩
          refine leaves_cons (f := 80) (args := #[.pointer (some ⟨w.heap.size, 0, none⟩), .pointer (some ⟨w.heap.size + 1, 0, none⟩)]) (by simp) (by simp [go_sem]) ?_
          refine (Xr.catch_fault w.heap.size (w.heap.size + 1) [] w3 (Xr.box_kept HD.out.cell k3 (by omega)) x 0 (Xr.box_kept HD.out.err k3 (by omega)) (by omega)).mono ?_
          rintro e2 u2 w9 ⟨rfl, rfl, hw9⟩
          exact Xr.fault_end (Xr.box_kept HD.out.cell k3 (by omega)) (Xr.box_kept HD.out.err k3 (by omega)) (HD.out.at_.kept.trans k3) hw9 rfl rfl
        · skip
          go_simp
          refine hK.out _ _ trivial (fun hHeld => ?_)
          clear hK K
          refine wpAnyH_ready (rs := [0, 2]) (by kernel_rfl) (by simp) ?_
          refine (AllReadyH.cons rfl (fun K hK => ?_) (AllReadyH.cons rfl (fun K hK => ?_) AllReadyH.nil))
          · skip
            go_simp
            refine hK.out _ _ trivial (fun hHeld => ?_)
            clear hK K
            refine wpAnyH_ready (rs := [2]) (by kernel_rfl) (by simp) ?_
            refine (AllReadyH.cons rfl (fun K hK => ?_) AllReadyH.nil)
            go_simp
            refine wd.mono ?_
            rintro e w3 ⟨rfl, k3⟩
            refine leaves_cons (f := 80) (args := #[.pointer (some ⟨w.heap.size, 0, none⟩), .pointer (some ⟨w.heap.size + 1, 0, none⟩)]) (by simp) (by simp [go_sem]) ?_
            refine (Xr.catch_fault w.heap.size (w.heap.size + 1) [] w3 (Xr.box_kept HD.out.cell k3 (by omega)) x 0 (Xr.box_kept HD.out.err k3 (by omega)) (by omega)).mono ?_
            rintro e2 u2 w9 ⟨rfl, rfl, hw9⟩
            exact Xr.fault_end (Xr.box_kept HD.out.cell k3 (by omega)) (Xr.box_kept HD.out.err k3 (by omega)) (HD.out.at_.kept.trans k3) hw9 rfl rfl
          · skip
            go_simp
            refine wd.mono ?_
            rintro e w3 ⟨rfl, k3⟩
            refine leaves_cons (f := 80) (args := #[.pointer (some ⟨w.heap.size, 0, none⟩), .pointer (some ⟨w.heap.size + 1, 0, none⟩)]) (by simp) (by simp [go_sem]) ?_
            refine (Xr.catch_fault w.heap.size (w.heap.size + 1) [] w3 (Xr.box_kept HD.out.cell k3 (by omega)) x 0 (Xr.box_kept HD.out.err k3 (by omega)) (by omega)).mono ?_
            rintro e2 u2 w9 ⟨rfl, rfl, hw9⟩
            exact Xr.fault_end (Xr.box_kept HD.out.cell k3 (by omega)) (Xr.box_kept HD.out.err k3 (by omega)) (HD.out.at_.kept.trans k3) hw9 rfl rfl
      | ok z =>
        obtain ⟨⟨xk, xt, xp, xm⟩, j⟩ := z
        have hpj := Xr.one_lt hx
        replace wd : ∀ u, Xr.At u u g s p → Calls Tryz.prog 83 #[.pointer (some ⟨g, 0, none⟩)] u fun e w' => ∃ a n d, e = .returned (.agg #[.int .i64 (xk : Int), .string ⟨xt.toArray⟩, .slice a n d, .int .i64 xm]) ∧ Xr.At u w' g s j ∧ u.heap.size ≤ w'.heap.size ∧ St.Lies w' (fun b => u.heap.size ≤ b ∧ b < w'.heap.size ∧ Rm.Ub w' b) xp (.slice a n d) := fun u q => by
          have := wd u q
          rw [hx] at this
          exact this
        have HG2 : Hid (Wx.go (n - 1) s.data.toList j (ws ++ [⟨xk, xt, xp, xm⟩]) = G) := by unfold Hid; rw [HGO.out, hx]
        clear HGO hx
        go_upto_region 5 with (go_at_call 82; refine ov.mono ?_; rintro e w2 ⟨rfl, n2, rfl⟩; have HS2 := Lib.hid (HS.out.drewN n2); clear ov HS; generalize wr.drewN n2 = w2 at *)
        clear HP
        have HD : Hid (Xr.Ws w w2.drew g s p (.slice va vn vd) ws) := HS2.out.drewN 1
        replace wd := wd w2.drew HD.out.at_.start
        have HOL : Hid (∀ k, (Value.slice va vn vd).ownBlock = some k → k < w2.drew.heap.size) := fun k hk => by
          obtain ⟨ys, ho, -⟩ := HD.out.row
          exact (ho.lt k hk).2
        refine wp_region_held_drew (S := fun _ => True) (by kernel_rfl) trivial (fun hHeld => ?_)
        generalize w2.drew = v0 at *
        have d0 : v0.cell? ⟨w.heap.size, 0, none⟩ = some (.slice va vn vd) := HD.out.cell.cell 0 rfl
        refine wpAnyH_ready (rs := [0, 1]) (by kernel_rfl) (by simp) ?_
        refine (AllReadyH.cons rfl (fun K hK => ?_) (AllReadyH.cons rfl (fun K hK => ?_) AllReadyH.nil))
        · skip
          go_simp
          refine hK.out _ _ trivial (fun hHeld => ?_)
          clear hK K
          refine wpAnyH_ready (rs := [1]) (by kernel_rfl) (by simp) ?_
          refine (AllReadyH.cons rfl (fun K hK => ?_) AllReadyH.nil)
          go_simp
          refine hK.out _ _ trivial (fun hHeld => ?_)
          clear hK K
          refine wpAnyH_ready (rs := [2]) (by kernel_rfl) (by simp) ?_
          refine (AllReadyH.cons rfl (fun K hK => ?_) AllReadyH.nil)
          go_simp
          refine wd.mono ?_
          rintro e w3 ⟨a3, n3, d3, rfl, at3, hs3, l3⟩
          have HS3 := Lib.hid (HD.out.then at3)
          have HL3 := Lib.hid l3
          have d30 : w3.cell? ⟨w.heap.size, 0, none⟩ = some (.slice va vn vd) := HS3.out.cell.cell 0 rfl
          clear at3 l3
          refine hK.out _ _ trivial (fun hHeld => ?_)
          clear hK K
          refine wpAnyH_ready (rs := [3]) (by kernel_rfl) (by simp) ?_
          refine (AllReadyH.cons rfl (fun K hK => ?_) AllReadyH.nil)
          go_simp
          refine hK.out _ _ trivial (fun hHeld => ?_)
          clear hK K
          refine wpAnyH_ready (rs := [4]) (by kernel_rfl) (by simp) ?_
          refine (AllReadyH.cons rfl (fun K hK => ?_) AllReadyH.nil)
          obtain ⟨ys, ho, -⟩ := id HS3.out.row
          refine Ro.step_push rfl (.tmp 12) (.tmp 15) 79 91 4 56 _ rfl Tryz.underlying79 Wm.info rfl (by decide) (.slice va vn vd) (by simp [Act.eval]) (ho.alloc _) w3.heap.size (Wo.four ⟨xk, xt, xp, xm⟩ (.slice a3 n3 d3)) (by simp [Act.eval]) (Wo.cell4 w3 ⟨xk, xt, xp, xm⟩ (.slice a3 n3 d3)) rfl (Wo.ones _ _ _ _) (by have := HVN.out; unfold maxLen; omega) (by have := HVN.out; omega) (by have := HS3.out.hi; simp; omega) ?_
          intro v7 w7 R7 hg7 hf7
          obtain ⟨a7, n7, d7, hv7⟩ := Xr.own_form R7
          subst hv7
          have HS7 := Lib.hid (HS3.out.push (x := ⟨xk, xt, xp, xm⟩) HL3.out HOL.out (by have := HD.out.hi; omega) (fun zs hz => by rw [Wm.own_unique hz ho]; exact R7) hg7 hf7)
          have B7 : Bs.Box w7 w.heap.size #[.slice va vn vd] 79 := Xr.under ho hg7 HS3.out.cell (by omega)
          have c7 : w7.cell? ⟨w.heap.size, 0, none⟩ = some (.slice va vn vd) := B7.cell 0 rfl
          have f7 := B7.frozen 0
          clear R7 hg7 hf7 B7 ho
          refine hK.out _ _ trivial (fun hHeld => ?_)
          clear hK K
          refine wpAnyH_ready (rs := [5]) (by kernel_rfl) (by simp) ?_
          refine (AllReadyH.cons rfl (fun K hK => ?_) AllReadyH.nil)
          go_simp
          refine hK.out _ _ trivial (fun hHeld => ?_)
          clear hK K
          refine wpAnyH_done (by kernel_rfl) ?_ _
          obtain ⟨p2, hp2⟩ : ∃ p2, Lx.skip j (s.data.toList.drop j) = p2 := ⟨_, rfl⟩
          have bl := blL _ j HS7.out.at_.start
          rw [hp2] at bl
          have HP2 := Lib.hid hp2
          have hjp : j ≤ p2 := by rw [← hp2]; exact (Lx.skip_ge _ _).1
          clear hp2
          go_wp2_with (go_at_call 81; refine bl.mono ?_; rintro e w8 ⟨rfl, a8⟩; have HS8 := Lib.hid (HS7.out.then a8); clear a8 bl)
          go_roundw
          case rel => exact ⟨j, p2, n - 1, ws ++ [⟨xk, xt, xp, xm⟩], _, hjp, by omega, by have := HVN.out; simp; omega, HS8, HP2, HG2⟩
          case measure => rw [Xr.place_eq HS8.out.at_, HM.out]; omega
        · skip
          go_simp
          refine hK.out _ _ trivial (fun hHeld => ?_)
          clear hK K
          refine wpAnyH_ready (rs := [0, 2]) (by kernel_rfl) (by simp) ?_
          refine (AllReadyH.cons rfl (fun K hK => ?_) (AllReadyH.cons rfl (fun K hK => ?_) AllReadyH.nil))
          · skip
            go_simp
            refine hK.out _ _ trivial (fun hHeld => ?_)
            clear hK K
            refine wpAnyH_ready (rs := [2]) (by kernel_rfl) (by simp) ?_
            refine (AllReadyH.cons rfl (fun K hK => ?_) AllReadyH.nil)
            go_simp
            refine wd.mono ?_
            rintro e w3 ⟨a3, n3, d3, rfl, at3, hs3, l3⟩
            have HS3 := Lib.hid (HD.out.then at3)
            have HL3 := Lib.hid l3
            have d30 : w3.cell? ⟨w.heap.size, 0, none⟩ = some (.slice va vn vd) := HS3.out.cell.cell 0 rfl
            clear at3 l3
            refine hK.out _ _ trivial (fun hHeld => ?_)
            clear hK K
            refine wpAnyH_ready (rs := [3]) (by kernel_rfl) (by simp) ?_
            refine (AllReadyH.cons rfl (fun K hK => ?_) AllReadyH.nil)
            go_simp
            refine hK.out _ _ trivial (fun hHeld => ?_)
            clear hK K
            refine wpAnyH_ready (rs := [4]) (by kernel_rfl) (by simp) ?_
            refine (AllReadyH.cons rfl (fun K hK => ?_) AllReadyH.nil)
            obtain ⟨ys, ho, -⟩ := id HS3.out.row
            refine Ro.step_push rfl (.tmp 12) (.tmp 15) 79 91 4 56 _ rfl Tryz.underlying79 Wm.info rfl (by decide) (.slice va vn vd) (by simp [Act.eval]) (ho.alloc _) w3.heap.size (Wo.four ⟨xk, xt, xp, xm⟩ (.slice a3 n3 d3)) (by simp [Act.eval]) (Wo.cell4 w3 ⟨xk, xt, xp, xm⟩ (.slice a3 n3 d3)) rfl (Wo.ones _ _ _ _) (by have := HVN.out; unfold maxLen; omega) (by have := HVN.out; omega) (by have := HS3.out.hi; simp; omega) ?_
            intro v7 w7 R7 hg7 hf7
            obtain ⟨a7, n7, d7, hv7⟩ := Xr.own_form R7
            subst hv7
            have HS7 := Lib.hid (HS3.out.push (x := ⟨xk, xt, xp, xm⟩) HL3.out HOL.out (by have := HD.out.hi; omega) (fun zs hz => by rw [Wm.own_unique hz ho]; exact R7) hg7 hf7)
            have B7 : Bs.Box w7 w.heap.size #[.slice va vn vd] 79 := Xr.under ho hg7 HS3.out.cell (by omega)
            have c7 : w7.cell? ⟨w.heap.size, 0, none⟩ = some (.slice va vn vd) := B7.cell 0 rfl
            have f7 := B7.frozen 0
            clear R7 hg7 hf7 B7 ho
            refine hK.out _ _ trivial (fun hHeld => ?_)
            clear hK K
            refine wpAnyH_ready (rs := [5]) (by kernel_rfl) (by simp) ?_
            refine (AllReadyH.cons rfl (fun K hK => ?_) AllReadyH.nil)
            go_simp
            refine hK.out _ _ trivial (fun hHeld => ?_)
            clear hK K
            refine wpAnyH_done (by kernel_rfl) ?_ _
            obtain ⟨p2, hp2⟩ : ∃ p2, Lx.skip j (s.data.toList.drop j) = p2 := ⟨_, rfl⟩
            have bl := blL _ j HS7.out.at_.start
            rw [hp2] at bl
            have HP2 := Lib.hid hp2
            have hjp : j ≤ p2 := by rw [← hp2]; exact (Lx.skip_ge _ _).1
            clear hp2
            go_wp2_with (go_at_call 81; refine bl.mono ?_; rintro e w8 ⟨rfl, a8⟩; have HS8 := Lib.hid (HS7.out.then a8); clear a8 bl)
            go_roundw
            case rel => exact ⟨j, p2, n - 1, ws ++ [⟨xk, xt, xp, xm⟩], _, hjp, by omega, by have := HVN.out; simp; omega, HS8, HP2, HG2⟩
            case measure => rw [Xr.place_eq HS8.out.at_, HM.out]; omega
          · skip
            go_simp
            refine wd.mono ?_
            rintro e w3 ⟨a3, n3, d3, rfl, at3, hs3, l3⟩
            have HS3 := Lib.hid (HD.out.then at3)
            have HL3 := Lib.hid l3
            have d30 : w3.cell? ⟨w.heap.size, 0, none⟩ = some (.slice va vn vd) := HS3.out.cell.cell 0 rfl
            clear at3 l3
            refine hK.out _ _ trivial (fun hHeld => ?_)
            clear hK K
            refine wpAnyH_ready (rs := [0, 3]) (by kernel_rfl) (by simp) ?_
            refine (AllReadyH.cons rfl (fun K hK => ?_) (AllReadyH.cons rfl (fun K hK => ?_) AllReadyH.nil))
            · skip
              go_simp
              refine hK.out _ _ trivial (fun hHeld => ?_)
              clear hK K
              refine wpAnyH_ready (rs := [3]) (by kernel_rfl) (by simp) ?_
              refine (AllReadyH.cons rfl (fun K hK => ?_) AllReadyH.nil)
              go_simp
              refine hK.out _ _ trivial (fun hHeld => ?_)
              clear hK K
              refine wpAnyH_ready (rs := [4]) (by kernel_rfl) (by simp) ?_
              refine (AllReadyH.cons rfl (fun K hK => ?_) AllReadyH.nil)
              obtain ⟨ys, ho, -⟩ := id HS3.out.row
              refine Ro.step_push rfl (.tmp 12) (.tmp 15) 79 91 4 56 _ rfl Tryz.underlying79 Wm.info rfl (by decide) (.slice va vn vd) (by simp [Act.eval]) (ho.alloc _) w3.heap.size (Wo.four ⟨xk, xt, xp, xm⟩ (.slice a3 n3 d3)) (by simp [Act.eval]) (Wo.cell4 w3 ⟨xk, xt, xp, xm⟩ (.slice a3 n3 d3)) rfl (Wo.ones _ _ _ _) (by have := HVN.out; unfold maxLen; omega) (by have := HVN.out; omega) (by have := HS3.out.hi; simp; omega) ?_
              intro v7 w7 R7 hg7 hf7
              obtain ⟨a7, n7, d7, hv7⟩ := Xr.own_form R7
              subst hv7
              have HS7 := Lib.hid (HS3.out.push (x := ⟨xk, xt, xp, xm⟩) HL3.out HOL.out (by have := HD.out.hi; omega) (fun zs hz => by rw [Wm.own_unique hz ho]; exact R7) hg7 hf7)
              have B7 : Bs.Box w7 w.heap.size #[.slice va vn vd] 79 := Xr.under ho hg7 HS3.out.cell (by omega)
              have c7 : w7.cell? ⟨w.heap.size, 0, none⟩ = some (.slice va vn vd) := B7.cell 0 rfl
              have f7 := B7.frozen 0
              clear R7 hg7 hf7 B7 ho
              refine hK.out _ _ trivial (fun hHeld => ?_)
              clear hK K
              refine wpAnyH_ready (rs := [5]) (by kernel_rfl) (by simp) ?_
              refine (AllReadyH.cons rfl (fun K hK => ?_) AllReadyH.nil)
              go_simp
              refine hK.out _ _ trivial (fun hHeld => ?_)
              clear hK K
              refine wpAnyH_done (by kernel_rfl) ?_ _
              obtain ⟨p2, hp2⟩ : ∃ p2, Lx.skip j (s.data.toList.drop j) = p2 := ⟨_, rfl⟩
              have bl := blL _ j HS7.out.at_.start
              rw [hp2] at bl
              have HP2 := Lib.hid hp2
              have hjp : j ≤ p2 := by rw [← hp2]; exact (Lx.skip_ge _ _).1
              clear hp2
              go_wp2_with (go_at_call 81; refine bl.mono ?_; rintro e w8 ⟨rfl, a8⟩; have HS8 := Lib.hid (HS7.out.then a8); clear a8 bl)
              go_roundw
              case rel => exact ⟨j, p2, n - 1, ws ++ [⟨xk, xt, xp, xm⟩], _, hjp, by omega, by have := HVN.out; simp; omega, HS8, HP2, HG2⟩
              case measure => rw [Xr.place_eq HS8.out.at_, HM.out]; omega
            · skip
              go_simp
              refine hK.out _ _ trivial (fun hHeld => ?_)
              clear hK K
              refine wpAnyH_ready (rs := [0]) (by kernel_rfl) (by simp) ?_
              refine (AllReadyH.cons rfl (fun K hK => ?_) AllReadyH.nil)
              have d31 : (w3.alloc (.cells #[.int .i64 (xk : Int), .string ⟨xt.toArray⟩, .slice a3 n3 d3, .int .i64 xm] 91)).cell? ⟨w.heap.size, 0, none⟩ = some (.slice va vn vd) := (HS3.out.cell.alloc _).cell 0 rfl
              go_simp
              refine hK.out _ _ trivial (fun hHeld => ?_)
              clear hK K
              refine wpAnyH_ready (rs := [4]) (by kernel_rfl) (by simp) ?_
              refine (AllReadyH.cons rfl (fun K hK => ?_) AllReadyH.nil)
              obtain ⟨ys, ho, -⟩ := id HS3.out.row
              refine Ro.step_push rfl (.tmp 12) (.tmp 15) 79 91 4 56 _ rfl Tryz.underlying79 Wm.info rfl (by decide) (.slice va vn vd) (by simp [Act.eval]) (ho.alloc _) w3.heap.size (Wo.four ⟨xk, xt, xp, xm⟩ (.slice a3 n3 d3)) (by simp [Act.eval]) (Wo.cell4 w3 ⟨xk, xt, xp, xm⟩ (.slice a3 n3 d3)) rfl (Wo.ones _ _ _ _) (by have := HVN.out; unfold maxLen; omega) (by have := HVN.out; omega) (by have := HS3.out.hi; simp; omega) ?_
              intro v7 w7 R7 hg7 hf7
              obtain ⟨a7, n7, d7, hv7⟩ := Xr.own_form R7
              subst hv7
              have HS7 := Lib.hid (HS3.out.push (x := ⟨xk, xt, xp, xm⟩) HL3.out HOL.out (by have := HD.out.hi; omega) (fun zs hz => by rw [Wm.own_unique hz ho]; exact R7) hg7 hf7)
              have B7 : Bs.Box w7 w.heap.size #[.slice va vn vd] 79 := Xr.under ho hg7 HS3.out.cell (by omega)
              have c7 : w7.cell? ⟨w.heap.size, 0, none⟩ = some (.slice va vn vd) := B7.cell 0 rfl
              have f7 := B7.frozen 0
              clear R7 hg7 hf7 B7 ho
              refine hK.out _ _ trivial (fun hHeld => ?_)
              clear hK K
              refine wpAnyH_ready (rs := [5]) (by kernel_rfl) (by simp) ?_
              refine (AllReadyH.cons rfl (fun K hK => ?_) AllReadyH.nil)
              go_simp
              refine hK.out _ _ trivial (fun hHeld => ?_)
              clear hK K
              refine wpAnyH_done (by kernel_rfl) ?_ _
              obtain ⟨p2, hp2⟩ : ∃ p2, Lx.skip j (s.data.toList.drop j) = p2 := ⟨_, rfl⟩
              have bl := blL _ j HS7.out.at_.start
              rw [hp2] at bl
              have HP2 := Lib.hid hp2
              have hjp : j ≤ p2 := by rw [← hp2]; exact (Lx.skip_ge _ _).1
              clear hp2
              go_wp2_with (go_at_call 81; refine bl.mono ?_; rintro e w8 ⟨rfl, a8⟩; have HS8 := Lib.hid (HS7.out.then a8); clear a8 bl)
              go_roundw
              case rel => exact ⟨j, p2, n - 1, ws ++ [⟨xk, xt, xp, xm⟩], _, hjp, by omega, by have := HVN.out; simp; omega, HS8, HP2, HG2⟩
              case measure => rw [Xr.place_eq HS8.out.at_, HM.out]; omega
    · rw [decide_eq_true (by omega)] at ov
      have hG : .ok ws = G := by rw [← HG.out, Wx.go_end (by omega) HP.out (by rw [Wk.len_data]; omega)]
      subst hG
      clear HG HP HM
      go_wp2_with (go_at_call 82; refine ov.mono ?_; rintro e w2 ⟨rfl, n2, rfl⟩; have HS2 := Lib.hid (HS.out.drewN n2); clear ov HS; generalize wr.drewN n2 = w2 at *; have c0 : w2.cell? ⟨w.heap.size, 0, none⟩ = some (.slice va vn vd) := HS2.out.cell.cell 0 rfl; have f0 := HS2.out.cell.frozen 0; have c1 : w2.cell? ⟨w.heap.size + 1, 0, none⟩ = some (.int .i64 0) := HS2.out.err.cell 0 rfl; have f1 := HS2.out.err.frozen 0)
      refine leaves_cons (f := 80) (args := #[.pointer (some ⟨w.heap.size, 0, none⟩), .pointer (some ⟨w.heap.size + 1, 0, none⟩)]) (by simp) (by simp [go_sem]) ?_
      refine (Xr.catch_idle ⟨w.heap.size, 0, none⟩ ⟨w.heap.size + 1, 0, none⟩ _).mono ?_
      rintro e2 u2 w9 ⟨rfl, rfl, hw9⟩
      exact Xr.good_end HS2.out hw9 rfl rfl
/-- what the program reads of package variables -/
structure Op.T (w : World) : Prop where
  out : True
theorem Op.T.on {w w' : World} (_h : Op.T w) (_hb : Below w.heap.size w w') : Op.T w' := ⟨trivial⟩
set_option maxHeartbeats 2000000 in
theorem Op.words (s : ByteArray) (w : World) (_hT : Op.T w) (hs : s.size ≤ 1099511627776) : Calls Tryz.prog 27 #[.string s] w fun e w' => ∃ v, e = .returned (.tuple #[v, .int .i64 (Wx.words s).2]) ∧ Wo.Lies w' (fun k => w.heap.size ≤ k ∧ k < w'.heap.size ∧ Rm.Ub w' k) (Wx.words s).1 v ∧ Below w.heap.size w w' := by
  obtain ⟨w1, hw1⟩ : ∃ w1, w.alloc (.cells #[.string s, .int .i64 0] 108) = w1 := ⟨_, rfl⟩
  have hA : Xr.At w1 w1 w.heap.size s 0 := by rw [← hw1]; exact ⟨Bs.Box.new _ _ _ _ rfl, Cu.Kept.refl _ _, Nat.zero_le _⟩
  have HB : Hid (Below w.heap.size w w1) := by rw [← hw1]; exact (Below.refl _ _).alloc (Nat.le_refl _) _
  have c1 := Xr.words hA hs
  obtain ⟨G, hG⟩ : ∃ G, Wx.go (s.size + 1) s.data.toList 0 [] = G := ⟨_, rfl⟩
  have e : Wx.words s = Wr.ans G := by unfold Wx.words; rw [hG]; rfl
  rw [hG] at c1
  rw [e]
  clear hA hG e
  subst hw1
  cases G with
  | error x =>
    go_enter Tryz.func27, Tryz.ntmps27
    go_wp2_with (go_at_call 53; refine c1.mono ?_; rintro e w2 ⟨rfl, k2⟩)
    go_ret2
    exact ⟨_, rfl, Wo.Lies.nil _ _, k2.below HB.out (Nat.le_refl _) (Nat.le_refl _)⟩
  | ok ws =>
    go_enter Tryz.func27, Tryz.ntmps27
    go_wp2_with (go_at_call 53; refine c1.mono ?_; rintro e w2 ⟨⟨v, rfl, hl⟩, k2⟩; have HL := Lib.hid hl; clear hl)
    go_ret2
    exact ⟨v, rfl, HL.out.on fun k hk => ⟨⟨by have := HB.out.size; omega, hk.2⟩, rfl⟩, k2.below HB.out (Nat.le_refl _) (Nat.le_refl _)⟩
end Go.Proofs.YtjppobeomocgbaaGreatDoor

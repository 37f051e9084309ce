/-
  THE WALK of the builder's addText.
-/
import Derived.Test.YthfobjkdcncoiaaWNode
import Derived.Test.YthfobjkdcncoiaaUMay
namespace Go.Proofs.Ythfobjkdcncoiaa
open Go.RowKit
theorem Pm.infoB : (Try.prog.info? 5).map (fun i => (i.zero, i.size, i.bytes)) = some (some (.int .u8 0), 1, 1) := by kernel_rfl
/-- where the row of bytes lies behind an 'append' of a text -/
theorem Pm.freshS {P : Program} {w : World} (base : Nat) (t u ty e : TypeId) (i : TypeInfo) (ht : P.underlying t = some (.slice e)) (hu : P.underlying u = some .string) (hi : P.info? e = some i) (hz : i.zero = some (.int .u8 0))
    (hsize : i.size = 1) (hby : i.bytes = 1) (v : Value) (n : Nat) (xs : List Value) (hown : w.ownsRow base e 1 v n xs) (s : ByteArray) (hs : 0 < s.size)
    (h63 : n + s.size ≤ maxLen) (hbytes : n + s.size ≤ 140737488355328) (v' : Value) (w' : World) (hrun : (Builtin.append_ #[t, u] ty #[v, .string s]).run P w = .ok v' w') :
    v'.ownBlock = v.ownBlock ∨ v'.ownBlock = some w.heap.size := by
  have hsmall : n + s.size ≤ 9223372036854775807 := by simp only [maxLen] at h63; omega
  have hxl : xs.length = n := by simpa using hown.1
  rcases hown.2 with ⟨rfl, rfl⟩ | ⟨g, cap, cur, rfl, hbg, hg, hnc, hcm, hcs, htake⟩
  · have hr := run_append_nil_string (P := P) w t u ty e i (.int .u8 0) ht hu hi hz s hs (by omega) (by rw [hby]; omega)
    rw [hr] at hrun
    injection hrun with e1 e2
    subst e1
    exact .inr rfl
  · by_cases hroom : n + s.size ≤ cap
    · have hcs' : cur.size = cap := by simpa using hcs
      have hr := Lib.run_append_room_string (P := P) w t u ty e i ht hu hi hsize g n cap cur hg s hroom (by omega)
      rw [hr] at hrun
      injection hrun with e1 e2
      subst e1
      exact .inl rfl
    · have holds : ∀ j u, xs[j]? = some u → w.cell? ((⟨g, 0, none⟩ : Addr).add j) = some u := hown.cells (g := g) rfl
      have hr := Lib.run_append_grow_string (P := P) w t u ty e i (.int .u8 0) ht hu hi hz ⟨g, 0, none⟩ n cap xs (by rw [hsize]; simpa using hxl) holds s (by omega) (by omega) (by rw [hby]; exact growslice_fits (by omega) (by omega))
      rw [hr] at hrun
      injection hrun with e1 e2
      subst e1
      exact .inr rfl
theorem Pm.pushText {w : World} {ops : Array Oper} {rest : List Oper} {o : Oper} {a : Act} {Z : Exit → Act → World → Prop} (hgd : o.guard = none) (s x : Operand)
    (ho : o.op = .call { callee := .builtin .append, args := #[s, x], argTypes := #[52, 9] })
    {base n : Nat} {xs : List Value} (v : Value) (hs : a.eval s = v) (hown : w.ownsRow base 5 1 v n xs) (t : ByteArray) (hx : a.eval x = .string t) (ht : 0 < t.size)
    (hn : n + t.size ≤ 140737488355328) (hbase : base ≤ w.heap.size)
    (h : ∀ v' w', w'.ownsRow base 5 1 v' (n + t.size) (xs ++ Lib.strCells t) → w.grownBy w' v.ownBlock → (v'.ownBlock = v.ownBlock ∨ v'.ownBlock = some w.heap.size) → wpList Try.prog ops Z rest (a.put o.dst v') w') : wpList Try.prog ops Z (o :: rest) a w := by
  refine wpList_plain hgd fun K hK => ?_
  obtain ⟨iV, hiV, hzV, hsV, hbV⟩ := info_parts Pm.infoB
  obtain ⟨v', w', hr, h2, h3, h4⟩ := Lib.run_append_own_string (P := Try.prog) w base 52 9 o.type 5 iV Try.underlying52 Try.underlying9 hiV hzV hsV hbV v n xs hown t (by unfold maxLen; omega) hn hbase
  have hf := Pm.freshS (P := Try.prog) base 52 9 o.type 5 iV Try.underlying52 Try.underlying9 hiV hzV hsV hbV v n xs hown t ht (by unfold maxLen; omega) hn v' w' hr
  unfold Oper.wp execOp
  simp only [ho, resolve, invoke, builtin, Sem.run_bind, Sem.run_pure, Result.andThen_ok, List.map_toArray, List.map_cons, List.map_nil, hs, hx, hr]
  exact hK _ _ (h v' w' h2 h3 hf)
set_option maxRecDepth 100000 in
set_option maxHeartbeats 4000000 in
theorem Pg.addText (base : Nat) (m : Bt) (bs s : ByteArray) (w : World) (g : Nat) (ov pv tv : Value) (h : Pm.At base w g m bs ov pv tv) (hok : Bt.Ok m) (hs : m.out.length ≤ 1000000) (hz : bs.size + s.size ≤ 140737488355328) (m' : Bt) (bs' : ByteArray) (hZ : (m', bs') = if s = Ts.e then (m, bs) else if (m.nth m.last).kind = 2 ∧ (m.nth m.last).parent = (m.top : Int) then (m, bs ++ s) else ((Pb.flush m bs).node ⟨2, Ts.e, Ts.e, [], 0⟩, Ts.e ++ s)) :
    Calls Try.prog 27 #[.pointer (some ⟨g, 0, none⟩), .string s] w fun e w' => e = .returned (.tuple #[]) ∧ ∃ ov' tv', Pm.At base w' g m' bs' ov' pv tv' ∧ Pm.Kept w w' (Pm.Mine g ov pv tv) (Pm.Mine g ov' pv tv') := by
  by_cases TE : s.toList = []
  · have hse := (Um.empty s).1 TE
    have e1 : (s.toList == []) = true := by rw [TE]; rfl
    have e2 : s.toList.isEmpty = true := by rw [TE]; rfl
    rw [if_pos hse] at hZ
    have hZ1 := (congrArg Prod.fst hZ).symm
    have hZ2 := (congrArg Prod.snd hZ).symm
    simp only at hZ1 hZ2
    subst hZ1
    subst hZ2
    clear hZ
    have H := Lib.hid h
    clear h hse
    go_enter Try.func27, Try.ntmps27
    go_wp2
    refine bodyPost_ret (v := .tuple #[]) (by simp [results, Try.results27, go_sem]) rfl ⟨rfl, _, _, H.out, Pm.Kept.refl _ _⟩
  have hse : ¬ s = Ts.e := fun q => TE ((Um.empty _).2 q)
  have e1 : (s.toList == []) = false := beq_eq_false_iff_ne.2 TE
  have e2 : s.toList.isEmpty = false := by cases hq : s.toList with | nil => exact absurd hq TE | cons _ _ => rfl
  have hsz : 0 < s.size := Nat.pos_of_ne_zero (Pb.size_ne hse)
  rw [if_neg hse] at hZ
  have hlt := h.lt
  obtain ⟨xs, hx⟩ := id h.out
  have hsome := hok.some
  obtain ⟨og, od, rfl, hod, hod2⟩ := Um.form1 hx.1 hok.some
  obtain ⟨y, hy⟩ : ∃ y, m.out[m.out.length - 1]? = some y := ⟨_, List.getElem?_eq_getElem (by omega)⟩
  have HYN : m.nth m.last = y := by unfold Bt.nth Bt.last; rw [hy]; rfl
  rw [HYN] at hZ
  have HZ := Lib.hid hZ
  clear hZ
  obtain ⟨avy, hh0, hly⟩ := hx.2 _ y hy
  obtain ⟨ya, yd, rfl, _⟩ := hly
  have hcy : ∀ r u, (Nd.five y (.slice ya y.attrs.length yd))[r]? = some u → w.cell? ⟨og, (m.out.length - 1) * 5 + r, none⟩ = some u := fun r u hr => by
    have := hx.1.cells (g := og) rfl _ _ (hh0 r u hr)
    rw [Ro.add, Nat.zero_add] at this
    exact this
  have y0 : w.cell? ⟨og, (m.out.length - 1) * 5, none⟩ = some (.int .i64 y.kind) := hcy 0 _ rfl
  have y1 := hcy 1 _ rfl
  have y2 := hcy 2 _ rfl
  have y3 := hcy 3 _ rfl
  have y4 := hcy 4 _ rfl
  have hogl : og < w.heap.size := World.block_lt_of_cell? _ _ y0
  have hw2 : IntKind.i64.wrap ((m.out.length : Int) - 1) = ((m.out.length - 1 : Nat) : Int) := by rw [IntKind.wrap_i64]; omega
  have hod3 : m.out.length - 1 < od := by omega
  have ho63 : m.out.length - 1 < m.out.length := by omega
  have n1 : w.heap.size ≠ og := by omega
  have n2 : og ≠ w.heap.size := by omega
  have n3 : w.heap.size ≠ g := by omega
  have n4 : g ≠ w.heap.size := by omega
  have c0 := h.c0
  have HH := Lib.hid h
  have HOK := Lib.hid hok
  clear hcy hx hy hh0 h hok TE
  go_enter Try.func27, Try.ntmps27
  go_upto_region 1 with fail
  go_cut [4] from 7 to 18 (fun v4 wx => Hid (v4 = .pointer (some ⟨w.heap.size, 0, none⟩) ∧ Below w.heap.size w wx ∧ wx.cell? ⟨w.heap.size, 0, none⟩ = some (.int .i64 y.kind) ∧ wx.cell? ⟨w.heap.size, 4, none⟩ = some (.int .i64 y.parent)))
  case first =>
    go_region_with (fail)
    all_goals (try go_wp2_with fail)
    all_goals go_meet
    all_goals exact Lib.hid ⟨rfl, (by first | exact (Below.refl _ _).drew.alloc (Nat.le_refl _) _ | exact ((Below.refl _ _).alloc (Nat.le_refl _) _).drew), by simp, by simp⟩
  case rest =>
    obtain ⟨rfl, hbc, k0, k4⟩ := hcut.out
    have hA := HH.out.on hbc
    have inn := fun n => Pg.innermost base m bs (wc.drewN n) g _ _ _ (hA.on ⟨rfl, rfl, rfl, Nat.le_refl _, fun _ _ => rfl⟩) HOK.out
    have HA : Hid (∀ n, Pm.At base (wc.drewN n) g m bs (.slice (some ⟨og, 0, none⟩) m.out.length od) pv tv) := fun n => hA.on ⟨rfl, rfl, rfl, Nat.le_refl _, fun _ _ => rfl⟩
    have HK : Hid (∀ n, Pm.Kept w (wc.drewN n) (Pm.Mine g (.slice (some ⟨og, 0, none⟩) m.out.length od) pv tv) (Pm.Mine g (.slice (some ⟨og, 0, none⟩) m.out.length od) pv tv)) := fun n => (Pm.Kept.of _ hbc).trans ⟨rfl, rfl, rfl, Nat.le_refl _, fun _ _ q => ⟨rfl, q⟩⟩
    clear hcut hbc hA c0 y0 y1 y2 y3 y4
    by_cases hc : y.kind = 2 ∧ y.parent = (m.top : Int)
    · have hZ := HZ.out
      rw [if_pos hc] at hZ
      have hZ1 := (congrArg Prod.fst hZ).symm
      have hZ2 := (congrArg Prod.snd hZ).symm
      simp only at hZ1 hZ2
      subst hZ1
      subst hZ2
      clear hZ
      clear HZ
      have b1 : (y.kind != 2) = false := by rw [hc.1]; rfl
      have b2 : (y.parent != (m.top : Int)) = false := by rw [hc.2]; simp
      clear hc
      go_upto_region 2 with fail
      go_quiet ((go_at_call 35; exact Calls.quiet_of (inn _)))
      have hA2 := HA.out nq
      have hK2 := HK.out nq
      generalize wc.drewN nq = V at *
      have v2 := hA2.c2
      have vf := hA2.fz
      have HT := Lib.hid hA2.txt
      have HG := Lib.hid hA2.tg
      obtain ⟨ta, td, rfl⟩ := Um.form hA2.txt
      have HA2 := Lib.hid hA2
      have HK2 := Lib.hid hK2
      have hVb : base ≤ V.heap.size := hA2.lo
      have hgV := hA2.lt
      clear hA2 hK2 HA HK inn
      go_wp2_with (at_builtin; refine Pm.pushText rfl _ _ rfl _ rfl HT.out s rfl hsz hz hVb ?_; intro v4 w4 R4 hg4 hf4; obtain ⟨a4, d4, rfl⟩ := Um.form R4; have B4 : w4.heap[g]? = V.heap[g]? := (hg4.block g hgV (fun e => HG.out e.symm)); have d2 := (World.cell?_of_block (a := ⟨g, 2, none⟩) B4).trans v2; have df := Pm.frozenOn B4 vf; clear B4; have HR4 := Lib.hid R4; have HG4 := Lib.hid hg4; have HF4 := Lib.hid hf4; clear R4 hg4 hf4)
      go_end0
      obtain ⟨z1, z2⟩ := HA2.out.text (bs' := bs ++ s) (Below.refl _ _) (.inl rfl) (by rw [ByteArray.size_append, Pm.bytes_append]; exact HR4.out) HG4.out (HF4.out.imp id fun e => ⟨_, e, Nat.le_refl _⟩)
      exact ⟨rfl, _, _, z1, HK2.out.trans z2⟩
    · have hZ := HZ.out
      rw [if_neg hc] at hZ
      have hZ1 := (congrArg Prod.fst hZ).symm
      have hZ2 := (congrArg Prod.snd hZ).symm
      simp only at hZ1 hZ2
      subst hZ1
      subst hZ2
      clear hZ
      clear HZ
      have hd : Hid ((y.kind != 2) = true ∨ ((y.kind != 2) = false ∧ (y.parent != (m.top : Int)) = true)) := by
        unfold Hid
        by_cases q : y.kind = 2
        · exact .inr ⟨by rw [q]; rfl, bne_iff_ne.2 fun e => hc ⟨q, e⟩⟩
        · exact .inl (bne_iff_ne.2 q)
      have HNO : Hid (∀ V ov2 tv2, Pm.At base V g m bs ov2 pv tv2 → Calls Try.prog 28 #[.pointer (some ⟨g, 0, none⟩), .agg #[.int .i64 2, .string ⟨#[]⟩, .string ⟨#[]⟩, .slice none 0 0, .int .i64 0]] V fun e w' => e = .returned (.tuple #[]) ∧ ∃ ov' tv', Pm.At base w' g ((Pb.flush m bs).node ⟨2, Ts.e, Ts.e, [], 0⟩) Ts.e ov' pv tv' ∧ Pm.Kept V w' (Pm.Mine g ov2 pv tv2) (Pm.Mine g ov' pv tv')) := fun V ov2 tv2 hV => Pg.addNode base m bs ⟨2, Ts.e, Ts.e, [], 0⟩ none 0 0 V g ov2 pv tv2 hV HOK.out hs (by omega) (Ak.Lies.nil _ _)
      clear hc
      go_upto_region 2 with fail
      go_cut [28] from 19 to 28 (fun v28 wx => Hid (v28 = .bool true ∧ ∃ n, wx = wc.drewN n))
      case first =>
        rcases hd.out with b1 | ⟨b1, b2⟩
        · clear hd
          go_quiet ((go_at_call 35; exact Calls.quiet_of (inn _)))
          go_wp2
          go_meet
          exact Lib.hid ⟨rfl, _, rfl⟩
        · clear hd
          go_quiet ((go_at_call 35; exact Calls.quiet_of (inn _)))
          go_wp2
          go_meet
          exact Lib.hid ⟨rfl, _, rfl⟩
      case rest =>
        obtain ⟨rfl, nq, hwc⟩ := hcut.out
        have hA2 := HA.out nq
        have hK2 := HK.out nq
        rw [← hwc] at hA2 hK2
        have nod := HNO.out _ _ _ hA2
        have HK2 := Lib.hid hK2
        clear hcut hwc hA2 hK2 HA HK inn HNO k0 k4 hd
        go_upto_region 4 with (go_at_call 28; refine nod.mono ?_; rintro e V ⟨rfl, ov2, tv2, hA3, hK3⟩; clear nod)
        have v2 := hA3.c2
        have vf := hA3.fz
        have HT := Lib.hid hA3.txt
        have HG := Lib.hid hA3.tg
        obtain ⟨ta, td, rfl⟩ := Um.form hA3.txt
        have HA3 := Lib.hid hA3
        have HK3 := Lib.hid (HK2.out.trans hK3)
        have hVb : base ≤ V.heap.size := hA3.lo
        have hgV := hA3.lt
        have hz2 : Ts.e.size + s.size ≤ 140737488355328 := by show 0 + s.size ≤ _; omega
        clear hA3 hK3
        go_wp2_with (at_builtin; refine Pm.pushText rfl _ _ rfl _ rfl HT.out s rfl hsz hz2 hVb ?_; intro v4 w4 R4 hg4 hf4; obtain ⟨a4, d4, rfl⟩ := Um.form R4; have B4 : w4.heap[g]? = V.heap[g]? := (hg4.block g hgV (fun e => HG.out e.symm)); have d2 := (World.cell?_of_block (a := ⟨g, 2, none⟩) B4).trans v2; have df := Pm.frozenOn B4 vf; clear B4; have HR4 := Lib.hid R4; have HG4 := Lib.hid hg4; have HF4 := Lib.hid hf4; clear R4 hg4 hf4)
        go_end0
        obtain ⟨z1, z2⟩ := HA3.out.text (bs' := Ts.e ++ s) (Below.refl _ _) (.inl rfl) (by rw [ByteArray.size_append, Pm.bytes_append]; exact HR4.out) HG4.out (HF4.out.imp id fun e => ⟨_, e, Nat.le_refl _⟩)
        exact ⟨rfl, _, _, z1, HK3.out.trans z2⟩
end Go.Proofs.Ythfobjkdcncoiaa

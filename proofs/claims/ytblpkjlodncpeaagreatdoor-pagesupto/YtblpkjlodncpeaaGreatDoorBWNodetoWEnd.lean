/-
  THE WALK of the builder's addNode.
-/
import Derived.Test.YtblpkjlodncpeaaGreatDoorBUTk2toWInner
import Derived.Test.YtblpkjlodncpeaaGreatDoorBUNdtoUMay
import Derived.Test.YtblpkjlodncpeaaGreatDoorBTToktoUTk1
namespace Go.Proofs.YtblpkjlodncpeaaGreatDoor
open Go.RowKit
set_option maxRecDepth 100000 in
set_option maxHeartbeats 4000000 in
theorem Pg.addNode (base : Nat) (m : Bt) (bs : ByteArray) (x : Nd) (aa : Option Addr) (an ad : Nat) (w : World) (g : Nat) (ov pv tv : Value) (h : Pm.At base w g m bs ov pv tv) (hok : Bt.Ok m) (hs : m.out.length ≤ 1000000) (hz : bs.size ≤ 140737488355328)
  (hat : Ak.Lies w (Pm.Off base w (Pm.Mine g ov pv tv)) x.attrs (.slice aa an ad)) :
  Calls Tryz.prog 84 #[.pointer (some ⟨g, 0, none⟩), .agg #[.int .i64 x.kind, .string x.name, .string x.text, .slice aa an ad, .int .i64 x.parent]] w fun e w' => e = .returned (.tuple #[]) ∧ ∃ ov' tv', Pm.At base w' g ((Pb.flush m bs).node x) Ts.e ov' pv tv' ∧ Pm.Kept w w' (Pm.Mine g ov pv tv) (Pm.Mine g ov' pv tv') := by
 have hlt := h.lt
 have HN0 : Hid (¬ Pm.Mine g ov pv tv w.heap.size) := fun q => Nat.lt_irrefl _ (h.mine q).2
 have et := fun u hu => Pg.endText base m bs w u g ov pv tv hu h hok hs hz
 have hokF := Pb.Ok.flush hok bs
 have htop : (Pb.flush m bs).top = m.top := Pb.flush_top m bs
 have hlen : (Pb.flush m bs).out.length = m.out.length := Pb.flush_len m bs
 have HAT := Lib.hid hat
 have HM : Hid ((Pb.flush m bs).out.length ≤ 1000000) := by unfold Hid; rw [hlen]; exact hs
 clear h hat hok hz hs hlen
 generalize Pb.flush m bs = mf at *
 go_enter Tryz.func84, Tryz.ntmps84
 go_upto_region 1 with fail
 obtain ⟨W, hW⟩ : ∃ W, w.alloc (.cells #[.int .i64 x.kind, .string x.name, .string x.text, .slice aa an ad, .int .i64 x.parent] 48) = W := ⟨_, rfl⟩
 have hbW : Below w.heap.size w W := by rw [← hW]; exact (Below.refl _ _).alloc (Nat.le_refl _) _
 have HQ : Hid (∀ j u, (Nd.five x (.slice aa an ad))[j]? = some u → W.cell? ⟨w.heap.size, j, none⟩ = some u) := by unfold Hid; rw [← hW]; exact Um.five_cells w x _ _ rfl
 have HQF : Hid (∀ i, W.frozen? ⟨w.heap.size, i, none⟩ = false) := fun i => by rw [← hW]; simp
 have hWs : w.heap.size < W.heap.size := by rw [← hW]; simp
 rw [hW]
 have et := et W hbW
 clear hW hbW
 go_upto_region 2 with (go_at_call 39; refine et.mono ?_; rintro e w2 ⟨rfl, w1, tv', hA1, hK1, hs1, hB1, hK2⟩; clear et)
 have HL1 := Lib.hid (hK1.attrs HAT.out)
 have hB1' : Below w1.heap.size w1 w2 := by rw [hs1]; exact hB1
 have hA2 := hA1.on hB1'
 have inn := Pg.innermost base mf Ts.e w2 g ov pv tv' hA2 hokF
 rw [htop] at inn
 have hbb := (hK2.block w.heap.size hWs HN0.out).1
 have HQ2 : Hid (∀ j u, (Nd.five x (.slice aa an ad))[j]? = some u → w2.cell? ⟨w.heap.size, j, none⟩ = some u) := fun j u hj => hK2.cell HN0.out (HQ.out j u hj)
 have qf : ∀ i, w2.frozen? ⟨w.heap.size, i, none⟩ = false := Pm.frozenOn hbb HQF.out
 have q4 := HQ2.out 4 _ rfl
 have HA1 := Lib.hid hA1
 have HK1 := Lib.hid hK1
 have HB1 : Hid (∀ n, Below w1.heap.size w1 ((w2.drewN n).setCell ⟨w.heap.size, 4, none⟩ (.int .i64 (m.top : Int)))) := fun n => by
  have q : Below w1.heap.size w1 (w2.drewN n) := ⟨hB1'.os, hB1'.tape, hB1'.output, hB1'.size, hB1'.block⟩
  exact q.setCell (by rw [hs1]; exact Nat.le_refl _) _
 have HQ3 : Hid (∀ n j u, (Nd.five { x with parent := (m.top : Int) } (.slice aa an ad))[j]? = some u → ((w2.drewN n).setCell ⟨w.heap.size, 4, none⟩ (.int .i64 (m.top : Int))).cell? ⟨w.heap.size, j, none⟩ = some u) := fun n => Um.five_set (W := w2.drewN n) HQ2.out (m.top : Int)
 have HS1 := Lib.hid hs1
 clear hA1 hK1 hB1 hB1' hK2 hA2 HQ HQ2 HQF hbb hs1
 go_upto_region 3 with (go_at_call 117; refine inn.mono ?_; rintro e w3 ⟨rfl, n3, rfl⟩; clear inn)
 have hbc := HB1.out n3
 have hfc := HQ3.out n3
 generalize (w2.drewN n3).setCell ⟨w.heap.size, 4, none⟩ (.int .i64 (m.top : Int)) = wc at *
 have hA := HA1.out.on hbc
 obtain ⟨xs, hx⟩ := id HA1.out.out
 obtain ⟨oa, od, rfl⟩ := Um.form hx.1
 have e0 := hA.c0
 have ef := hA.fz
 have f0 := hfc 0 _ rfl
 have f1 := hfc 1 _ rfl
 have f2 := hfc 2 _ rfl
 have f3 := hfc 3 _ rfl
 have f4 := hfc 4 _ rfl
 have HX := Lib.hid hx
 have HBC := Lib.hid hbc
 have HO : Hid (wc.ownsRow base 48 5 (.slice oa mf.out.length od) mf.out.length xs) := Rm.own_on hx.1 fun k hk => hbc.block k (hx.1.lt k hk).2
 have hgs : w.heap.size < wc.heap.size := World.block_lt_of_cell? _ _ f0
 have n4 : wc.heap.size ≠ g := by omega
 have n5 : wc.heap.size ≠ w.heap.size := by omega
 have hbase := HA1.out.ge
 have hgc : g < wc.heap.size := by omega
 have hog := hA.og
 have HOG := Lib.hid hog
 have e0' : ∀ o, (wc.alloc o).cell? ⟨g, 0, none⟩ = _ := fun o => (World.cell?_alloc_lt _ _ _ hgc).trans e0
 have HN : Hid (mf.out.length + 1 ≤ maxLen ∧ (mf.out.length + 1) * 72 ≤ 140737488355328) := ⟨by unfold maxLen; have := HM.out; omega, by have := HM.out; omega⟩
 clear hx hbc hfc hA HB1 HQ3 q4 qf hog
 go_region_law (first | (refine Ro.step_push rfl (.tmp 13) (.tmp 15) 22 48 5 72 _ rfl Tryz.underlying22 Um.infoN rfl (by decide) (.slice oa mf.out.length od) (by simp [Act.eval]) (HO.out.alloc _) wc.heap.size (Nd.five { x with parent := (m.top : Int) } (.slice aa an ad)) (by simp [Act.eval]) (Um.five_cells _ { x with parent := (m.top : Int) } _ _ (by first | rfl | omega | (simp; omega))) rfl (Um.five_one _ _ _ _) HN.out.1 HN.out.2 (by first | omega | (simp; omega)) ?_; intro v4 w4 R4 hg4 hf4; obtain ⟨a4, d4, rfl⟩ := Um.form R4; have B4 : w4.heap[g]? = wc.heap[g]? := ((hg4.block g (by first | omega | (simp; omega)) (fun e => HOG.out e.symm)).trans (Below.heap_alloc _ _ _ (by first | omega | (simp; omega)))); have d0 := (World.cell?_of_block (a := ⟨g, 0, none⟩) B4).trans e0; have df : ∀ i, w4.frozen? ⟨g, i, none⟩ = false := (fun i => by have := ef i; unfold World.frozen? at this ⊢; rw [B4]; exact this); clear B4; have HR4 := Lib.hid R4; have HG4 := Lib.hid hg4; have HF4 := Lib.hid hf4; clear R4 hg4 hf4))
 all_goals go_wp2
 all_goals go_end0
 all_goals
  have hq : Below w1.heap.size w1 (wc.drew.alloc (.cells #[.int .i64 x.kind, .string x.name, .string x.text, .slice aa an ad, .int .i64 (m.top : Int)] 48)) := HBC.out.drew.alloc HBC.out.size _
  obtain ⟨z1, z2⟩ := Pm.At.push (x := { x with parent := (m.top : Int) }) HA1.out hq xs HX.out HL1.out HR4.out HG4.out HF4.out
  refine ⟨rfl, _, _, ?_, HK1.out.trans z2⟩
  unfold Bt.node
  rw [htop]
  exact z1
theorem Pm.infoB : (Tryz.prog.info? 5).map (fun i => (i.zero, i.size, i.bytes)) = some (some (.int .u8 0), 1, 1) := by kernel_rfl
theorem Pm.freshS {P : Program} {w : World} (base : Nat) (t u ty e : TypeId) (i : TypeInfo) (ht : P.underlying t = some (.slice e)) (hu : P.underlying u = some .string) (hi : P.info? e = some i) (hz : i.zero = some (.int .u8 0))
  (hsize : i.size = 1) (hby : i.bytes = 1) (v : Value) (n : Nat) (xs : List Value) (hown : w.ownsRow base e 1 v n xs) (s : ByteArray) (hs : 0 < s.size)
  (h63 : n + s.size ≤ maxLen) (hbytes : n + s.size ≤ 140737488355328) (v' : Value) (w' : World) (hrun : (Builtin.append_ #[t, u] ty #[v, .string s]).run P w = .ok v' w') :
  v'.ownBlock = v.ownBlock ∨ v'.ownBlock = some w.heap.size := by
 have hsmall : n + s.size ≤ 9223372036854775807 := by simp only [maxLen] at h63; omega
 have hxl : xs.length = n := by simpa using hown.1
 rcases hown.2 with ⟨rfl, rfl⟩ | ⟨g, cap, cur, rfl, hbg, hg, hnc, hcm, hcs, htake⟩
 ·
  have hr := run_append_nil_string (P := P) w t u ty e i (.int .u8 0) ht hu hi hz s hs (by omega) (by rw [hby]; omega)
  rw [hr] at hrun
  injection hrun with e1 e2
  subst e1
  exact .inr rfl
 ·
  by_cases hroom : n + s.size ≤ cap
  ·
   have hcs' : cur.size = cap := by simpa using hcs
   have hr := Lib.run_append_room_string (P := P) w t u ty e i ht hu hi hsize g n cap cur hg s hroom (by omega)
   rw [hr] at hrun
   injection hrun with e1 e2
   subst e1
   exact .inl rfl
  ·
   have holds : ∀ j u, xs[j]? = some u → w.cell? ((⟨g, 0, none⟩ : Addr).add j) = some u := hown.cells (g := g) rfl
   have hr := Lib.run_append_grow_string (P := P) w t u ty e i (.int .u8 0) ht hu hi hz ⟨g, 0, none⟩ n cap xs (by rw [hsize]; simpa using hxl) holds s (by omega) (by omega) (by rw [hby]; exact growslice_fits (by omega) (by omega))
   rw [hr] at hrun
   injection hrun with e1 e2
   subst e1
   exact .inr rfl
theorem Pm.pushText {w : World} {ops : Array Oper} {rest : List Oper} {o : Oper} {a : Act} {Z : Exit → Act → World → Prop} (hgd : o.guard = none) (s x : Operand)
  (ho : o.op = .call { callee := .builtin .append, args := #[s, x], argTypes := #[43, 9] })
  {base n : Nat} {xs : List Value} (v : Value) (hs : a.eval s = v) (hown : w.ownsRow base 5 1 v n xs) (t : ByteArray) (hx : a.eval x = .string t) (ht : 0 < t.size)
  (hn : n + t.size ≤ 140737488355328) (hbase : base ≤ w.heap.size)
  (h : ∀ v' w', w'.ownsRow base 5 1 v' (n + t.size) (xs ++ Lib.strCells t) → w.grownBy w' v.ownBlock → (v'.ownBlock = v.ownBlock ∨ v'.ownBlock = some w.heap.size) → wpList Tryz.prog ops Z rest (a.put o.dst v') w') : wpList Tryz.prog ops Z (o :: rest) a w := by
 refine wpList_plain hgd fun K hK => ?_
 obtain ⟨iV, hiV, hzV, hsV, hbV⟩ := info_parts Pm.infoB
 obtain ⟨v', w', hr, h2, h3, h4⟩ := Lib.run_append_own_string (P := Tryz.prog) w base 43 9 o.type 5 iV Tryz.underlying43 Tryz.underlying9 hiV hzV hsV hbV v n xs hown t (by unfold maxLen; omega) hn hbase
 have hf := Pm.freshS (P := Tryz.prog) base 43 9 o.type 5 iV Tryz.underlying43 Tryz.underlying9 hiV hzV hsV hbV v n xs hown t ht (by unfold maxLen; omega) hn v' w' hr
 unfold Oper.wp execOp
 simp only [ho, resolve, invoke, builtin, Sem.run_bind, Sem.run_pure, Result.andThen_ok, List.map_toArray, List.map_cons, List.map_nil, hs, hx, hr]
 exact hK _ _ (h v' w' h2 h3 hf)
set_option maxRecDepth 100000 in
set_option maxHeartbeats 4000000 in
theorem Pg.addText (base : Nat) (m : Bt) (bs s : ByteArray) (w : World) (g : Nat) (ov pv tv : Value) (h : Pm.At base w g m bs ov pv tv) (hok : Bt.Ok m) (hs : m.out.length ≤ 1000000) (hz : bs.size + s.size ≤ 140737488355328) (m' : Bt) (bs' : ByteArray) (hZ : (m', bs') = if s = Ts.e then (m, bs) else if (m.nth m.last).kind = 2 ∧ (m.nth m.last).parent = (m.top : Int) then (m, bs ++ s) else ((Pb.flush m bs).node ⟨2, Ts.e, Ts.e, [], 0⟩, Ts.e ++ s)) :
  Calls Tryz.prog 83 #[.pointer (some ⟨g, 0, none⟩), .string s] w fun e w' => e = .returned (.tuple #[]) ∧ ∃ ov' tv', Pm.At base w' g m' bs' ov' pv tv' ∧ Pm.Kept w w' (Pm.Mine g ov pv tv) (Pm.Mine g ov' pv tv') := by
 by_cases TE : s.toList = []
 ·
  have hse := (Um.empty s).1 TE
  have e1 : (s.toList == []) = true := by rw [TE]; rfl
  have e2 : s.toList.isEmpty = true := by rw [TE]; rfl
  rw [if_pos hse] at hZ
  have hZ1 := (congrArg Prod.fst hZ).symm
  have hZ2 := (congrArg Prod.snd hZ).symm
  simp only at hZ1 hZ2
  subst hZ1
  subst hZ2
  clear hZ
  have H := Lib.hid h
  clear h hse
  go_enter Tryz.func83, Tryz.ntmps83
  go_wp2
  refine bodyPost_ret (v := .tuple #[]) (by simp [results, Tryz.results83, go_sem]) rfl ⟨rfl, _, _, H.out, Pm.Kept.refl _ _⟩
 have hse : ¬ s = Ts.e := fun q => TE ((Um.empty _).2 q)
 have e1 : (s.toList == []) = false := beq_eq_false_iff_ne.2 TE
 have e2 : s.toList.isEmpty = false := by cases hq : s.toList with | nil => exact absurd hq TE | cons _ _ => rfl
 have hsz : 0 < s.size := Nat.pos_of_ne_zero (Pb.size_ne hse)
 rw [if_neg hse] at hZ
 have hlt := h.lt
 obtain ⟨xs, hx⟩ := id h.out
 have hsome := hok.some
 obtain ⟨og, od, rfl, hod, hod2⟩ := Um.form1 hx.1 hok.some
 obtain ⟨y, hy⟩ : ∃ y, m.out[m.out.length - 1]? = some y := ⟨_, List.getElem?_eq_getElem (by omega)⟩
 have HYN : m.nth m.last = y := by unfold Bt.nth Bt.last; rw [hy]; rfl
 rw [HYN] at hZ
 have HZ := Lib.hid hZ
 clear hZ
 obtain ⟨avy, hh0, hly⟩ := hx.2 _ y hy
 obtain ⟨ya, yd, rfl, _⟩ := hly
 have hcy : ∀ r u, (Nd.five y (.slice ya y.attrs.length yd))[r]? = some u → w.cell? ⟨og, (m.out.length - 1) * 5 + r, none⟩ = some u := fun r u hr => by
  have := hx.1.cells (g := og) rfl _ _ (hh0 r u hr)
  rw [Ro.add, Nat.zero_add] at this
  exact this
 have y0 : w.cell? ⟨og, (m.out.length - 1) * 5, none⟩ = some (.int .i64 y.kind) := hcy 0 _ rfl
 have y1 := hcy 1 _ rfl
 have y2 := hcy 2 _ rfl
 have y3 := hcy 3 _ rfl
 have y4 := hcy 4 _ rfl
 have hogl : og < w.heap.size := World.block_lt_of_cell? _ _ y0
 have hw2 : IntKind.i64.wrap ((m.out.length : Int) - 1) = ((m.out.length - 1 : Nat) : Int) := by rw [IntKind.wrap_i64]; omega
 have hod3 : m.out.length - 1 < od := by omega
 have ho63 : m.out.length - 1 < m.out.length := by omega
 have n1 : w.heap.size ≠ og := by omega
 have n2 : og ≠ w.heap.size := by omega
 have n3 : w.heap.size ≠ g := by omega
 have n4 : g ≠ w.heap.size := by omega
 have c0 := h.c0
 have HH := Lib.hid h
 have HOK := Lib.hid hok
 clear hcy hx hy hh0 h hok TE
 go_enter Tryz.func83, Tryz.ntmps83
 go_upto_region 1 with fail
 go_cut [4] from 7 to 18 (fun v4 wx => Hid (v4 = .pointer (some ⟨w.heap.size, 0, none⟩) ∧ Below w.heap.size w wx ∧ wx.cell? ⟨w.heap.size, 0, none⟩ = some (.int .i64 y.kind) ∧ wx.cell? ⟨w.heap.size, 4, none⟩ = some (.int .i64 y.parent)))
 case first =>
  go_region_with (fail)
  all_goals (try go_wp2_with fail)
  all_goals go_meet
  all_goals exact Lib.hid ⟨rfl, (by first | exact (Below.refl _ _).drew.alloc (Nat.le_refl _) _ | exact ((Below.refl _ _).alloc (Nat.le_refl _) _).drew), by simp, by simp⟩
 case rest =>
  obtain ⟨rfl, hbc, k0, k4⟩ := hcut.out
  have hA := HH.out.on hbc
  have inn := fun n => Pg.innermost base m bs (wc.drewN n) g _ _ _ (hA.on ⟨rfl, rfl, rfl, Nat.le_refl _, fun _ _ => rfl⟩) HOK.out
  have HA : Hid (∀ n, Pm.At base (wc.drewN n) g m bs (.slice (some ⟨og, 0, none⟩) m.out.length od) pv tv) := fun n => hA.on ⟨rfl, rfl, rfl, Nat.le_refl _, fun _ _ => rfl⟩
  have HK : Hid (∀ n, Pm.Kept w (wc.drewN n) (Pm.Mine g (.slice (some ⟨og, 0, none⟩) m.out.length od) pv tv) (Pm.Mine g (.slice (some ⟨og, 0, none⟩) m.out.length od) pv tv)) := fun n => (Pm.Kept.of _ hbc).trans ⟨rfl, rfl, rfl, Nat.le_refl _, fun _ _ q => ⟨rfl, q⟩⟩
  clear hcut hbc hA c0 y0 y1 y2 y3 y4
  by_cases hc : y.kind = 2 ∧ y.parent = (m.top : Int)
  ·
   have hZ := HZ.out
   rw [if_pos hc] at hZ
   have hZ1 := (congrArg Prod.fst hZ).symm
   have hZ2 := (congrArg Prod.snd hZ).symm
   simp only at hZ1 hZ2
   subst hZ1
   subst hZ2
   clear hZ
   clear HZ
   have b1 : (y.kind != 2) = false := by rw [hc.1]; rfl
   have b2 : (y.parent != (m.top : Int)) = false := by rw [hc.2]; simp
   clear hc
   go_upto_region 2 with fail
   go_quiet ((go_at_call 117; exact Calls.quiet_of (inn _)))
   have hA2 := HA.out nq
   have hK2 := HK.out nq
   generalize wc.drewN nq = V at *
   have v2 := hA2.c2
   have vf := hA2.fz
   have HT := Lib.hid hA2.txt
   have HG := Lib.hid hA2.tg
   obtain ⟨ta, td, rfl⟩ := Um.form hA2.txt
   have HA2 := Lib.hid hA2
   have HK2 := Lib.hid hK2
   have hVb : base ≤ V.heap.size := hA2.lo
   have hgV := hA2.lt
   clear hA2 hK2 HA HK inn
   go_wp2_with (at_builtin; refine Pm.pushText rfl _ _ rfl _ rfl HT.out s rfl hsz hz hVb ?_; intro v4 w4 R4 hg4 hf4; obtain ⟨a4, d4, rfl⟩ := Um.form R4; have B4 : w4.heap[g]? = V.heap[g]? := (hg4.block g hgV (fun e => HG.out e.symm)); have d2 := (World.cell?_of_block (a := ⟨g, 2, none⟩) B4).trans v2; have df := Pm.frozenOn B4 vf; clear B4; have HR4 := Lib.hid R4; have HG4 := Lib.hid hg4; have HF4 := Lib.hid hf4; clear R4 hg4 hf4)
   go_end0
   obtain ⟨z1, z2⟩ := HA2.out.text (bs' := bs ++ s) (Below.refl _ _) (.inl rfl) (by rw [ByteArray.size_append, Pm.bytes_append]; exact HR4.out) HG4.out (HF4.out.imp id fun e => ⟨_, e, Nat.le_refl _⟩)
   exact ⟨rfl, _, _, z1, HK2.out.trans z2⟩
  ·
   have hZ := HZ.out
   rw [if_neg hc] at hZ
   have hZ1 := (congrArg Prod.fst hZ).symm
   have hZ2 := (congrArg Prod.snd hZ).symm
   simp only at hZ1 hZ2
   subst hZ1
   subst hZ2
   clear hZ
   clear HZ
   have hd : Hid ((y.kind != 2) = true ∨ ((y.kind != 2) = false ∧ (y.parent != (m.top : Int)) = true)) := by
    unfold Hid
    by_cases q : y.kind = 2
    ·
     exact .inr ⟨by rw [q]; rfl, bne_iff_ne.2 fun e => hc ⟨q, e⟩⟩
    ·
     exact .inl (bne_iff_ne.2 q)
   have HNO : Hid (∀ V ov2 tv2, Pm.At base V g m bs ov2 pv tv2 → Calls Tryz.prog 84 #[.pointer (some ⟨g, 0, none⟩), .agg #[.int .i64 2, .string ⟨#[]⟩, .string ⟨#[]⟩, .slice none 0 0, .int .i64 0]] V fun e w' => e = .returned (.tuple #[]) ∧ ∃ ov' tv', Pm.At base w' g ((Pb.flush m bs).node ⟨2, Ts.e, Ts.e, [], 0⟩) Ts.e ov' pv tv' ∧ Pm.Kept V w' (Pm.Mine g ov2 pv tv2) (Pm.Mine g ov' pv tv')) := fun V ov2 tv2 hV => Pg.addNode base m bs ⟨2, Ts.e, Ts.e, [], 0⟩ none 0 0 V g ov2 pv tv2 hV HOK.out hs (by omega) (Ak.Lies.nil _ _)
   clear hc
   go_upto_region 2 with fail
   go_cut [28] from 19 to 28 (fun v28 wx => Hid (v28 = .bool true ∧ ∃ n, wx = wc.drewN n))
   case first =>
    rcases hd.out with b1 | ⟨b1, b2⟩
    ·
     clear hd
     go_quiet ((go_at_call 117; exact Calls.quiet_of (inn _)))
     go_wp2
     go_meet
     exact Lib.hid ⟨rfl, _, rfl⟩
    ·
     clear hd
     go_quiet ((go_at_call 117; exact Calls.quiet_of (inn _)))
     go_wp2
     go_meet
     exact Lib.hid ⟨rfl, _, rfl⟩
   case rest =>
    obtain ⟨rfl, nq, hwc⟩ := hcut.out
    have hA2 := HA.out nq
    have hK2 := HK.out nq
    rw [← hwc] at hA2 hK2
    have nod := HNO.out _ _ _ hA2
    have HK2 := Lib.hid hK2
    clear hcut hwc hA2 hK2 HA HK inn HNO k0 k4 hd
    go_upto_region 4 with (go_at_call 84; refine nod.mono ?_; rintro e V ⟨rfl, ov2, tv2, hA3, hK3⟩; clear nod)
    have v2 := hA3.c2
    have vf := hA3.fz
    have HT := Lib.hid hA3.txt
    have HG := Lib.hid hA3.tg
    obtain ⟨ta, td, rfl⟩ := Um.form hA3.txt
    have HA3 := Lib.hid hA3
    have HK3 := Lib.hid (HK2.out.trans hK3)
    have hVb : base ≤ V.heap.size := hA3.lo
    have hgV := hA3.lt
    have hz2 : Ts.e.size + s.size ≤ 140737488355328 := by show 0 + s.size ≤ _; omega
    clear hA3 hK3
    go_wp2_with (at_builtin; refine Pm.pushText rfl _ _ rfl _ rfl HT.out s rfl hsz hz2 hVb ?_; intro v4 w4 R4 hg4 hf4; obtain ⟨a4, d4, rfl⟩ := Um.form R4; have B4 : w4.heap[g]? = V.heap[g]? := (hg4.block g hgV (fun e => HG.out e.symm)); have d2 := (World.cell?_of_block (a := ⟨g, 2, none⟩) B4).trans v2; have df := Pm.frozenOn B4 vf; clear B4; have HR4 := Lib.hid R4; have HG4 := Lib.hid hg4; have HF4 := Lib.hid hf4; clear R4 hg4 hf4)
    go_end0
    obtain ⟨z1, z2⟩ := HA3.out.text (bs' := Ts.e ++ s) (Below.refl _ _) (.inl rfl) (by rw [ByteArray.size_append, Pm.bytes_append]; exact HR4.out) HG4.out (HF4.out.imp id fun e => ⟨_, e, Nat.le_refl _⟩)
    exact ⟨rfl, _, _, z1, HK3.out.trans z2⟩
theorem Pm.run0 (P : Program) (w : World) (t ty e : TypeId) (i : TypeInfo) (ht : P.underlying t = some (.slice e)) (hi : P.info? e = some i) (ak : Option Addr) (d : Nat) :
  (Builtin.append_ #[t, t] ty #[.slice none 0 0, .slice ak 0 d]).run P w = .ok (.slice none 0 0) w := by
 cases ak with
 | none => simp [Builtin.append_, run_underlying ht, sizeOf, typeInfo, hi, Builtin.lenOf, Builtin.firstCells]
 | some a => simp [Builtin.append_, run_underlying ht, sizeOf, typeInfo, hi, Builtin.lenOf, Builtin.firstCells, loadCells, loadCellsFrom]
theorem Pm.step_copy {w : World} {ops : Array Oper} {o : Oper} {a : Act} {K : Act → World → Prop} {E : Prop} {Z : Exit → Act → World → Prop} (hgd : o.guard = none) (s x : Operand) (t e : TypeId) (size bytes : Nat) (z : Value)
  (ho : o.op = .call { callee := .builtin .append, args := #[s, x], argTypes := #[t, t] })
  (ht : Tryz.prog.underlying t = some (.slice e)) (hi : (Tryz.prog.info? e).map (fun i => (i.zero, i.size, i.bytes)) = some (some z, size, bytes)) (hzs : z.cells.size = size) (hsz : 0 < size)
  {base : Nat} (hs : a.eval s = .slice none 0 0) (n : Nat) (news : List Value) (aa : Option Addr) (ad : Nat)
  (hx : a.eval x = .slice aa n ad) (hk : ∀ j u, news[j]? = some u → ∃ b, aa = some b ∧ w.cell? (b.add j) = some u) (hl : news.length = n * size) (hone : ∀ u ∈ news, u.oneCell' = true)
  (hn1 : n ≤ maxLen) (hn : n * bytes ≤ 140737488355328) (hbase : base ≤ w.heap.size)
  (h : ∀ v' w', w'.ownsRow base e size v' n news → w.grownBy w' none → K (a.put o.dst v') w') :
  if Region.wanted o (yielded ops a.tmps) = true then Oper.wp Tryz.prog o a w K Z else E := by
 have hw : Region.wanted o (yielded ops a.tmps) = true := by simp [Region.wanted, hgd]
 rw [if_pos hw]
 obtain ⟨iV, hiV, hzV, hsV, hbV⟩ := info_parts hi
 by_cases h0 : n = 0
 ·
  subst h0
  have hrun := Pm.run0 Tryz.prog w t o.type e iV ht hiV aa ad
  have hnil : news = [] := List.eq_nil_of_length_eq_zero (by rw [hl]; simp)
  subst hnil
  have h2 := h (.slice none 0 0) w (World.ownsRow_nil w base e size) ⟨rfl, rfl, rfl, Nat.le_refl _, fun _ _ _ => rfl⟩
  unfold Oper.wp execOp
  simp only [ho, resolve, invoke, builtin, Sem.run_bind, Sem.run_pure, Result.andThen_ok, List.map_toArray, List.map_cons, List.map_nil, hs, hx, hrun]
  exact h2
 ·
  have hp : 0 < news.length := by rw [hl]; exact Nat.mul_pos (by omega) hsz
  obtain ⟨b, rfl, _⟩ := hk 0 _ (List.getElem?_eq_getElem hp)
  have hnews : ∀ j u, news[j]? = some u → w.cell? (b.add j) = some u := fun j u hj => by
   obtain ⟨b', e', hc⟩ := hk j u hj
   cases e'
   exact hc
  obtain ⟨v', w', hr, h2, h3, h4⟩ := run_append_own (P := Tryz.prog) w base t o.type e iV _ size bytes ht hiV hzV hsV hbV hzs hsz (.slice none 0 0) 0 [] (World.ownsRow_nil w base e size) b n ad news hl hnews hone (by omega) (by rw [Nat.zero_add]; exact hn) hbase
  unfold Oper.wp execOp
  simp only [ho, resolve, invoke, builtin, Sem.run_bind, Sem.run_pure, Result.andThen_ok, List.map_toArray, List.map_cons, List.map_nil, hs, hx, hr]
  rw [Nat.zero_add, List.nil_append] at h2
  exact h v' w' h2 h3
theorem Pm.copied {base an : Nat} {V U w4 : World} {g : Nat} {m : Bt} {bs : ByteArray} {ov pv tv v4 : Value} {al : List (ByteArray × ByteArray)} (hU : Below V.heap.size V U) (hg4 : U.grownBy w4 none) (R4 : w4.ownsRow V.heap.size 50 2 v4 an (Ak.cells al)) (han : an = al.length) (hA : Pm.At base V g m bs ov pv tv) :
  Below V.heap.size V w4 ∧ Ak.Lies w4 (Pm.Off base w4 (Pm.Mine g ov pv tv)) al v4 := by
 refine ⟨hU.grown hg4 hU.size (fun k hk => by cases hk), (Um.ownAttrs R4 han).on fun k hk => ⟨⟨?_, (R4.lt k hk).2, fun e => ?_, Rm.Ub.own R4 hk⟩, rfl⟩⟩
 ·
  have := (R4.lt k hk).1; have := hA.lo; omega
 ·
  have := (R4.lt k hk).1; have := (hA.mine e).2; omega
set_option maxRecDepth 100000 in
set_option maxHeartbeats 8000000 in
theorem Pg.start (base : Nat) (m : Bt) (bs : ByteArray) (t : Tk) (aa : Option Addr) (an ad : Nat) (R : Nat → Prop) (w : World) (g : Nat) (ov pv tv : Value) (h : Pm.At base w g m bs ov pv tv) (hok : Bt.Ok m) (hs : m.out.length ≤ 1000000) (hz : bs.size ≤ 140737488355328) (hat : Ak.Lies w R t.attrs (.slice aa an ad)) (hal : t.attrs.length ≤ 32)
  (m' : Bt) (hZ : m' = if Ts.kind t.name ≠ 1 ∧ m.opn.length ≤ 32 then { (Pb.flush m bs).node ⟨1, t.name, Ts.e, t.attrs, 0⟩ with opn := m.opn ++ [m.out.length] } else (Pb.flush m bs).node ⟨1, t.name, Ts.e, t.attrs, 0⟩) :
  Calls Tryz.prog 85 #[.pointer (some ⟨g, 0, none⟩), .agg #[.int .i64 t.kind, .string t.name, .string t.text, .slice aa an ad, .bool t.self]] w fun e w' => e = .returned (.tuple #[]) ∧ ∃ ov' pv' tv', Pm.At base w' g m' Ts.e ov' pv' tv' ∧ Pm.Kept w w' (Pm.Mine g ov pv tv) (Pm.Mine g ov' pv' tv') := by
 have HKC : Hid (∀ u, Below w.heap.size w u → ∀ j y, (Ak.cells t.attrs)[j]? = some y → ∃ b, aa = some b ∧ u.cell? (b.add j) = some y) := fun u hu j y hj => by
  obtain ⟨b, e, hc⟩ := (Um.attr_cells hat).2 j y hj
  exact ⟨b, e, (hu.cell (World.block_lt_of_cell? _ _ hc)).trans hc⟩
 have han := (Um.attr_cells hat).1
 have HLN : Hid ((Ak.cells t.attrs).length = an * 2) := by unfold Hid; rw [Ak.cells_length, han]
 have han2 : an ≤ 32 := by omega
 have HAN := Lib.hid han
 have HZ := Lib.hid hZ
 clear hat han hal hZ
 have hlt := h.lt
 have hl0 := hok.opn
 have hfew := hok.few
 have n1 : w.heap.size ≠ g := by omega
 have n2 : g ≠ w.heap.size := by omega
 have HNW : Hid (¬ Pm.Mine g ov pv tv w.heap.size) := fun q => Nat.lt_irrefl _ (h.mine q).2
 obtain ⟨p, pd, rfl, hpd, _⟩ := Pm.topCell h hl0
 have nod := fun u a4 n4 d4 hu ha4 => Pg.addNode base m bs ⟨1, t.name, Ts.e, t.attrs, 0⟩ a4 n4 d4 u g ov (.slice (some ⟨p, 0, none⟩) m.opn.length pd) tv hu hok hs hz ha4
 have hlen : (Pb.flush m bs).out.length = m.out.length := Pb.flush_len m bs
 have hopn : (Pb.flush m bs).opn = m.opn := Pb.flush_opn m bs
 have HH := Lib.hid h
 clear h hok hz
 generalize Pb.flush m bs = mf at *
 go_enter Tryz.func85, Tryz.ntmps85
 go_upto_region 1 with fail
 obtain ⟨V, hV⟩ : ∃ V, w.alloc (.cells #[.int .i64 t.kind, .string t.name, .string t.text, .slice aa an ad, .bool t.self] 84) = V := ⟨_, rfl⟩
 have hbV : Below w.heap.size w V := by rw [← hV]; exact (Below.refl _ _).alloc (Nat.le_refl _) _
 have v1 : V.cell? ⟨w.heap.size, 1, none⟩ = some (.string t.name) := by rw [← hV]; simp
 have v3 : V.cell? ⟨w.heap.size, 3, none⟩ = some (.slice aa an ad) := by rw [← hV]; simp
 rw [hV]
 have HA := Lib.hid (HH.out.on hbV)
 have HBV := Lib.hid hbV
 have HK := Lib.hid (Pm.Kept.of (Pm.Mine g ov (.slice (some ⟨p, 0, none⟩) m.opn.length pd) tv) hbV)
 clear hV hbV HH
 go_cut [] from 5 to 12 (fun wx => Hid (∃ ov2 tv2, Pm.At base wx g (mf.node ⟨1, t.name, Ts.e, t.attrs, 0⟩) Ts.e ov2 (.slice (some ⟨p, 0, none⟩) m.opn.length pd) tv2 ∧ Pm.Kept V wx (Pm.Mine g ov (.slice (some ⟨p, 0, none⟩) m.opn.length pd) tv) (Pm.Mine g ov2 (.slice (some ⟨p, 0, none⟩) m.opn.length pd) tv2)))
 case first =>
  go_region_law (first | (refine Pm.step_copy rfl _ (.tmp 9) 46 50 2 32 _ rfl Tryz.underlying46 Rm.infoA rfl (by decide) (base := V.heap.size) (by rfl) an (Ak.cells t.attrs) aa ad (by rfl) (HKC.out _ (by first | exact HBV.out | exact HBV.out.drew)) HLN.out (Ak.cells_one _) (by unfold maxLen; omega) (by omega) (by first | exact Nat.le_refl _ | (simp; done)) ?_; intro v4 w4 R4 hg4; obtain ⟨a4, d4, rfl⟩ := Um.form R4; have hc4 := Pm.copied (by first | exact Below.refl _ _ | exact (Below.refl _ _).drew) hg4 R4 HAN.out HA.out; have HL4 := Lib.hid hc4.2; have HB4 := Lib.hid hc4.1; have x1 := Tp.keep hc4.1 v1; clear R4 hg4 hc4) | (rw [if_pos (by simp [Region.wanted])]; go_simp; go_at_call 84; refine (nod _ a4 an d4 (HA.out.on HB4.out) HL4.out).mono ?_; rintro e w5 ⟨rfl, ov5, tv5, hA5, hK5⟩; have HA5 := Lib.hid hA5; have HK5 := Lib.hid ((Pm.Kept.of _ HB4.out).trans hK5); clear hA5 hK5))
  all_goals (try go_wp2_with fail)
  all_goals go_meet
  all_goals exact Lib.hid ⟨ov5, tv5, HA5.out, HK5.out⟩
 case rest =>
  obtain ⟨ov2, tv2, hA2, hK2⟩ := hcut.out
  have z1 := hK2.cell HNW.out v1
  have hlen2 : (mf.node ⟨1, t.name, Ts.e, t.attrs, 0⟩).out.length = m.out.length + 1 := by show (mf.out ++ _).length = _; rw [List.length_append, hlen]; rfl
  obtain ⟨xs2, hx2⟩ := id hA2.out
  obtain ⟨oa2, od2, rfl⟩ := Um.form hx2.1
  have d0 := hA2.c0
  have d1 := hA2.c1
  have df := hA2.fz
  rw [hlen2] at d0
  have HA2 := Lib.hid hA2
  have HK2 := Lib.hid (HK.out.trans hK2)
  have elm := fun u => Tp.elemKind t.name u
  have hw1 : IntKind.i64.wrap ((m.opn.length : Int) - 1) = ((m.opn.length - 1 : Nat) : Int) := by rw [IntKind.wrap_i64]; omega
  clear hcut hA2 hK2 hx2 nod v1 v3 HKC
  by_cases hq : Ts.kind t.name ≠ 1 ∧ m.opn.length ≤ 32
  ·
   have HX : Hid (m' = { mf.node ⟨1, t.name, Ts.e, t.attrs, 0⟩ with opn := m.opn ++ [m.out.length] }) := by unfold Hid; rw [HZ.out, if_pos hq]
   have b1 : (Ts.kind t.name != 1) = true := bne_iff_ne.2 hq.1
   have b2 : decide ((32 : Int) ≤ ((m.opn.length - 1 : Nat) : Int)) = false := decide_eq_false (by omega)
   have b3 : ¬ 32 ≤ m.opn.length - 1 := by omega
   have hw5 : IntKind.i64.wrap ((m.out.length : Int) + 1 - 1) = (m.out.length : Int) := by rw [IntKind.wrap_i64]; omega
   have hw6 : IntKind.i64.wrap (m.out.length : Int) = (m.out.length : Int) := by rw [IntKind.wrap_i64]; omega
   have HNI : Hid (m.opn.length + 1 ≤ maxLen ∧ (m.opn.length + 1) * 8 ≤ 140737488355328) := ⟨by unfold maxLen; omega, by omega⟩
   have HOP : Hid (wc.ownsRow base 3 1 (.slice (some ⟨p, 0, none⟩) m.opn.length pd) m.opn.length (Um.ints m.opn)) := by
    have := HA2.out.opn
    unfold Hid
    rw [show (mf.node ⟨1, t.name, Ts.e, t.attrs, 0⟩).opn = m.opn from hopn] at this
    exact this
   have hgc : g < wc.heap.size := HA2.out.lt
   have n7 : wc.heap.size ≠ g := by omega
   have n8 : g ≠ wc.heap.size := by omega
   have d0' : ∀ o, (wc.alloc o).cell? ⟨g, 0, none⟩ = _ := fun o => (World.cell?_alloc_lt _ _ _ hgc).trans d0
   have d1' : ∀ o, (wc.alloc o).cell? ⟨g, 1, none⟩ = _ := fun o => (World.cell?_alloc_lt _ _ _ hgc).trans d1
   have hbc : base ≤ wc.heap.size := HA2.out.lo
   clear hq
   go_upto_region 4 with ((go_at_call 118; refine (elm _).mono ?_; rintro e w' ⟨rfl, hw⟩; have hw := hw.symm; subst hw))
   go_region_law (first | (refine Ro.step_push rfl (.tmp 32) (.tmp 39) 52 3 1 8 _ rfl Tryz.underlying52 Um.infoI rfl (by decide) (.slice (some ⟨p, 0, none⟩) m.opn.length pd) (by simp [Act.eval]) (HOP.out.alloc _) wc.heap.size [.int .i64 (m.out.length : Int)] (by simp [Act.eval]) (Um.one_int _ _ _ (by first | rfl | omega | (simp; omega))) rfl (by simp [Value.oneCell']) HNI.out.1 HNI.out.2 (by first | omega | (simp; omega)) ?_; intro v4 w4 R4 hg4 hf4; obtain ⟨a4, d4, rfl⟩ := Um.form R4; have B4 : w4.heap[g]? = wc.heap[g]? := ((hg4.block g (by first | omega | (simp; omega)) (fun e => HA2.out.pg e.symm)).trans (Below.heap_alloc _ _ _ (by first | omega | (simp; omega)))); have f1 := (World.cell?_of_block (a := ⟨g, 1, none⟩) B4).trans d1; have ff : ∀ i, w4.frozen? ⟨g, i, none⟩ = false := (fun i => by have := df i; unfold World.frozen? at this ⊢; rw [B4]; exact this); clear B4; have HR4 := Lib.hid R4; have HG4 := Lib.hid hg4; have HF4 := Lib.hid hf4; clear R4 hg4 hf4))
   all_goals go_wp2
   all_goals go_end0
   all_goals
    have hq4 : Below wc.heap.size wc (wc.drew.alloc (.cells #[.int .i64 (m.out.length : Int)] 3)) := (Below.refl _ _).drew.alloc (Nat.le_refl _) _
    have hl4 : (m.opn ++ [m.out.length]).length = m.opn.length + 1 := by rw [List.length_append]; rfl
    obtain ⟨y1, y2⟩ := Pm.At.open (l := m.opn ++ [m.out.length]) HA2.out hq4 (.inl rfl) (by rw [hl4, Um.ints_append]; exact HR4.out) HG4.out (by
     rcases HF4.out with q | q
     ·
      exact .inl q
     ·
      exact .inr ⟨_, q, by show wc.heap.size ≤ (wc.drew.alloc _).heap.size; simp⟩)
    exact ⟨rfl, _, _, _, by rw [HX.out]; exact y1, HK2.out.trans y2⟩
  ·
   have HX : Hid (m' = mf.node ⟨1, t.name, Ts.e, t.attrs, 0⟩) := by unfold Hid; rw [HZ.out, if_neg hq]
   by_cases q : Ts.kind t.name = 1
   ·
    have b1 : (Ts.kind t.name != 1) = false := by rw [q]; rfl
    clear hq q
    go_wp2_with (go_at_call 118; refine (elm _).mono ?_; rintro e w' ⟨rfl, hw⟩; have hw := hw.symm; subst hw)
    go_end0
    exact ⟨rfl, _, _, _, by rw [HX.out]; exact HA2.out, HK2.out⟩
   ·
    have b1 : (Ts.kind t.name != 1) = true := bne_iff_ne.2 q
    have b2 : decide ((32 : Int) ≤ ((m.opn.length - 1 : Nat) : Int)) = true := decide_eq_true (by omega)
    have b3 : 32 ≤ m.opn.length - 1 := by omega
    clear hq q
    go_wp2_with (go_at_call 118; refine (elm _).mono ?_; rintro e w' ⟨rfl, hw⟩; have hw := hw.symm; subst hw)
    go_end0
    exact ⟨rfl, _, _, _, by rw [HX.out]; exact HA2.out, HK2.out⟩
set_option maxRecDepth 100000 in
set_option maxHeartbeats 4000000 in
theorem Pg.end (base : Nat) (m : Bt) (bs nm : ByteArray) (w : World) (g : Nat) (ov pv tv : Value) (h : Pm.At base w g m bs ov pv tv) (hok : Bt.Ok m) (_hs : m.out.length ≤ 1000000) (m' : Bt) (hZ : m' = if m.find nm m.opn.length = 0 then m else { m with opn := m.opn.take (m.find nm m.opn.length) }) :
  Calls Tryz.prog 86 #[.pointer (some ⟨g, 0, none⟩), .string nm] w fun e w' => e = .returned (.tuple #[]) ∧ ∃ pv', Pm.At base w' g m' bs ov pv' tv ∧ Pm.Kept w w' (Pm.Mine g ov pv tv) (Pm.Mine g ov pv' tv) := by
 obtain ⟨p, pd, rfl, hpd, ctop⟩ := Pm.topCell h hok.opn
 obtain ⟨xs, hx⟩ := id h.out
 obtain ⟨og, od, rfl, hod, hod2⟩ := Um.form1 hx.1 hok.some
 have hl0 := hok.opn
 have hfew := hok.few
 have hsome := hok.some
 have hw1 : IntKind.i64.wrap ((m.opn.length : Int) - 1) = ((m.opn.length - 1 : Nat) : Int) := by rw [IntKind.wrap_i64]; omega
 have c0 := h.c0
 have c1 := h.c1
 have cf := h.fz
 have HA := Lib.hid h
 have HOP := Lib.hid h.opn
 have HLT := Lib.hid hok.lt
 have HZ := Lib.hid hZ
 clear h hx ctop hZ hok
 go_enter Tryz.func86, Tryz.ntmps86
 go_wp2_with fail
 go_loopw [4] (fun ix wr => ∃ i n : Nat, i < m.opn.length ∧ ix = .int .i64 (i : Int) ∧ Hid (m.find nm m.opn.length = m.find nm (i + 1)) ∧ wr = w.drewN n) (fun ix _ => (intOf ix).toNat)
 case atStart => exact ⟨m.opn.length - 1, 0, by omega, by first | rfl | go_num, (by unfold Hid; rw [show m.opn.length - 1 + 1 = m.opn.length by omega]), rfl⟩
 case round =>
  obtain ⟨i, n, hi, rfl, HI, rfl⟩ := hrel
  by_cases h0 : 0 < i
  ·
   have d0 : decide ((0 : Int) < (i : Int)) = true := decide_eq_true (by omega)
   obtain ⟨q, hq⟩ : ∃ q, m.opn[i]? = some q := ⟨_, List.getElem?_eq_getElem hi⟩
   have hqlt : q < m.out.length := HLT.out q (List.mem_of_getElem? hq)
   have cq : w.cell? ⟨p, i, none⟩ = some (.int .i64 (q : Int)) := by
    rw [HOP.out.cellAt i (by omega)]
    exact Um.ints_get hq
   obtain ⟨y, hy⟩ : ∃ y, m.out[q]? = some y := ⟨_, List.getElem?_eq_getElem hqlt⟩
   obtain ⟨avy, hcy⟩ := HA.out.out.cell hy
   have cn : w.cell? ⟨og, q * 5 + 1, none⟩ = some (.string y.name) := hcy 1 _ rfl
   have HYN : Hid ((m.nth (m.opn.getD i 0)).name = y.name) := by
    unfold Hid Bt.nth
    rw [List.getD_eq_getElem?_getD, hq]
    show (m.out[q]?.getD Nd.zero).name = _
    rw [hy]
    rfl
   have hipd : i < pd := by omega
   have hqod : q < od := by omega
   clear hcy hy hq
   by_cases hn : y.name = nm
   ·
    have HF : Hid (m.find nm m.opn.length = i) := by
     unfold Hid
     rw [HI.out]
     unfold Bt.find
     rw [if_neg (by omega), if_pos (HYN.out.trans hn)]
    have HX : Hid (m' = { m with opn := m.opn.take i }) := by unfold Hid; rw [HZ.out, HF.out, if_neg (by omega)]
    rw [hn] at cn
    have e1 : (nm.toList == nm.toList) = true := by simp
    have HBU : Hid (∀ k1 k2, Below w.heap.size w ((w.drewN k1).drewN k2)) := fun _ _ => ⟨rfl, rfl, rfl, Nat.le_refl _, fun _ _ => rfl⟩
    clear hn
    go_wp2_with fail
    go_quiet (fail)
    obtain ⟨U, hU⟩ : ∃ U, (w.drewN n).drewN nq = U := ⟨_, rfl⟩
    have hbU : Below w.heap.size w U := by rw [← hU]; exact HBU.out n nq
    rw [hU]
    have hAU := HA.out.on hbU
    have u1 := hAU.c1
    have uf := hAU.fz
    have hl4 : (m.opn.take i).length = i := by rw [List.length_take]; omega
    have R4 : U.ownsRow base 3 1 (.slice (some ⟨p, 0, none⟩) i pd) (m.opn.take i).length (Um.ints (m.opn.take i)) := by
     rw [hl4]
     have := Pm.short hAU.opn i (by omega)
     unfold Um.ints at this ⊢
     rw [List.map_take]
     exact this
    obtain ⟨y1, y2⟩ := Pm.At.open (l := m.opn.take i) hAU (Below.refl _ _) (.inl rfl) R4 (World.grownBy.refl _ _) (.inl rfl)
    have HY1 := Lib.hid y1
    have HY2 := Lib.hid ((Pm.Kept.of _ hbU).trans y2)
    have hipd2 : i ≤ pd := by omega
    clear hU hbU hAU R4 y1 y2 cq cn HYN c0 c1 cf hl4
    go_wp2
    refine bodyPost_ret (v := .tuple #[]) (by simp [results, Tryz.results86, go_sem]) rfl ⟨rfl, _, by rw [HX.out]; exact HY1.out, HY2.out⟩
   ·
    have e1 := Um.toList_ne hn
    have HI2 : Hid (m.find nm m.opn.length = m.find nm (i - 1 + 1)) := by
     unfold Hid
     rw [HI.out]
     conv => lhs; unfold Bt.find
     rw [if_neg (by omega), if_neg (by rw [HYN.out]; exact hn), show i - 1 + 1 = i by omega]
    have hw3 : IntKind.i64.wrap ((i : Int) - 1) = ((i - 1 : Nat) : Int) := by rw [IntKind.wrap_i64]; omega
    clear hn HYN
    go_wp2_with fail
    go_quiet (fail)
    go_wp2
    go_roundw
    case rel => exact ⟨i - 1, _, by omega, by first | rfl | go_num, HI2, rfl⟩
    case measure => simp [intOf]; omega
  ·
   have d0 : decide ((0 : Int) < (i : Int)) = false := decide_eq_false (by omega)
   have hi0 : i = 0 := by omega
   have HX : Hid (m' = m) := by
    unfold Hid
    rw [HZ.out, HI.out, hi0]
    exact if_pos rfl
   have HA3 := Lib.hid (HA.out.on (w' := w.drewN n) ⟨rfl, rfl, rfl, Nat.le_refl _, fun _ _ => rfl⟩)
   have HK3 := Lib.hid (Pm.Kept.of (w := w) (w1 := w.drewN n) (Pm.Mine g (.slice (some ⟨og, 0, none⟩) m.out.length od) (.slice (some ⟨p, 0, none⟩) m.opn.length pd) tv) ⟨rfl, rfl, rfl, Nat.le_refl _, fun _ _ => rfl⟩)
   clear hi0
   go_wp2
   go_end0
   exact ⟨rfl, _, by rw [HX.out]; exact HA3.out, HK3.out⟩
end Go.Proofs.YtblpkjlodncpeaaGreatDoor

/-
  THE WALK of stolelaw7.TreeShapes: whatever the tokens (not too many, not too long), the call returns true.
-/
import Derived.Test.YthfobjkdcncoiaaUAw
import Derived.Test.YthfobjkdcncoiaaUShape
import Derived.Test.YthfobjkdcncoiaaUMay
namespace Go.Proofs.Ythfobjkdcncoiaa
open Go.RowKit
theorem Sy.said_len (ts : List Tk) : (Bt.said ts).length ≤ Bt.bulk ts := by
  unfold Bt.said Bt.bulk
  induction ts with
  | nil => exact Nat.le_refl _
  | cons t ts ih =>
    rw [List.flatMap_cons, List.length_append, List.map_cons, List.sum_cons]
    have : (if t.kind = 0 then t.text.data.toList else []).length ≤ t.text.size := by
      split
      · rw [Array.length_toList]; exact Nat.le_refl _
      · exact Nat.zero_le _
    omega
theorem Sy.says_take (ns : List Nd) (i : Nat) (hi : i < ns.length) : Bt.says (ns.take (i + 1)) = Bt.says (ns.take i) ++ (if ns[i].kind = 2 then ns[i].text.data.toList else []) := by
  rw [List.take_succ_eq_append_getElem hi, Bt.says_push]
theorem Sy.says_le (ns : List Nd) (i : Nat) : (Bt.says (ns.take i)).length ≤ (Bt.says ns).length := by
  have : Bt.says ns = Bt.says (ns.take i) ++ Bt.says (ns.drop i) := by
    unfold Bt.says
    rw [← List.flatMap_append, List.take_append_drop]
  rw [this, List.length_append]
  omega
theorem Sy.said_take (ts : List Tk) (i : Nat) (hi : i < ts.length) : Bt.said (ts.take (i + 1)) = Bt.said (ts.take i) ++ (if ts[i].kind = 0 then ts[i].text.data.toList else []) := by
  rw [List.take_succ_eq_append_getElem hi]
  unfold Bt.said
  rw [List.flatMap_append]
  simp
theorem Sy.said_le (ts : List Tk) (i : Nat) : (Bt.said (ts.take i)).length ≤ (Bt.said ts).length := by
  have : Bt.said ts = Bt.said (ts.take i) ++ Bt.said (ts.drop i) := by
    unfold Bt.said
    rw [← List.flatMap_append, List.take_append_drop]
  rw [this, List.length_append]
  omega
theorem Sy.tags_take (ts : List Tk) (i : Nat) (hi : i < ts.length) : Bt.tags (ts.take (i + 1)) = Bt.tags (ts.take i) + (if ts[i].kind = 1 then 1 else 0) := by
  rw [List.take_succ_eq_append_getElem hi]
  unfold Bt.tags
  rw [List.countP_append]
  by_cases q : ts[i].kind = 1
  · simp [q]
  · simp [q]
theorem Sy.elems_take (ns : List Nd) (i : Nat) (hi : i < ns.length) : Bt.elems (ns.take (i + 1)) = Bt.elems (ns.take i) + (if ns[i].kind = 1 then 1 else 0) := by
  rw [List.take_succ_eq_append_getElem hi, Bt.elems_push]
theorem Sy.tags_le (ts : List Tk) : Bt.tags ts ≤ ts.length := List.countP_le_length
theorem Sy.elems_le (ns : List Nd) : Bt.elems ns ≤ ns.length := List.countP_le_length
theorem Sy.made (n : Nat) (hn : n ≤ 4096) : ∃ M : Array Value, (∀ u : World, (Instr.makeSlice 39 (.int .i64 (n : Int)) (.int .i64 (n : Int))).run Try.prog u = .ok (.slice (some ⟨u.heap.size, 0, none⟩) n n) (u.alloc (.cells M 3))) ∧ M.size = n ∧ ∀ j, j < n → M[j]? = some (.int .i64 0) := by
  obtain ⟨i0, hi, hz0, hz1, hz2⟩ := info_parts Um.infoI
  refine ⟨madeCells #[.int .i64 0] n, fun u => ?_, ?_, fun j hj => ?_⟩
  · have h := run_make (P := Try.prog) u 39 3 i0 (.int .i64 0) Try.underlying39 hi hz0 .i64 .i64 (n : Int) (n : Int) (by omega) (Int.le_refl _) (by rw [hz2]; omega) (by omega)
    simpa [hz1, Value.cells] using h
  · rw [size_madeCells]; try simp
  · rw [← Array.getElem?_toList, toList_madeCells_one, List.getElem?_replicate, if_pos hj]
/-- the depths' block: what is known of it ahead of the i-th node -/
def Sy.Deep (u : World) (g n i : Nat) (D : List Nat) : Prop := ∃ C : Array Value, u.heap[g]? = some (.cells C 3 (0, 0)) ∧ C.size = n ∧ ∀ j d, j < i → D[j]? = some d → C[j]? = some (.int .i64 (d : Int))
theorem Sy.Deep.cell {u : World} {g n i : Nat} {D : List Nat} (h : Sy.Deep u g n i D) {j d : Nat} (hj : j < i) (hd : D[j]? = some d) : u.cell? ⟨g, j, none⟩ = some (.int .i64 (d : Int)) := by
  obtain ⟨C, h1, h2, h3⟩ := h
  have := h3 j d hj hd
  simp [World.cell?, h1, this]
theorem Sy.Deep.is {u : World} {g n i : Nat} {D : List Nat} (h : Sy.Deep u g n i D) {j : Nat} (hj : j < n) : (u.cell? ⟨g, j, none⟩).isSome = true := by
  obtain ⟨C, h1, h2, h3⟩ := h
  simp [World.cell?, h1, h2, hj]
theorem Sy.Deep.free {u : World} {g n i : Nat} {D : List Nat} (h : Sy.Deep u g n i D) (j : Nat) : u.frozen? ⟨g, j, none⟩ = false := by
  obtain ⟨C, h1, h2, h3⟩ := h
  simp [World.frozen?, h1]
theorem Sy.Deep.put {u : World} {g n i : Nat} {D : List Nat} (h : Sy.Deep u g n i D) {d : Nat} (hi : i < n) (hd : D[i]? = some d) : Sy.Deep (u.setCell ⟨g, i, none⟩ (.int .i64 (d : Int))) g n (i + 1) D := by
  obtain ⟨C, h1, h2, h3⟩ := h
  have hlt := lt_of_block h1
  have h' : u.heap[g] = .cells C 3 (0, 0) := by simpa [Array.getElem?_eq_getElem hlt] using h1
  refine ⟨C.setIfInBounds i (.int .i64 (d : Int)), ?_, by simpa using h2, fun j e hj he => ?_⟩
  · show (u.heap.modify g _)[g]? = _
    rw [Array.getElem?_eq_getElem (by simpa using hlt), Array.getElem_modify_self, h']
    rfl
  · by_cases q : i = j
    · subst q
      rw [hd] at he
      injection he with he
      subst he
      rw [Array.getElem?_setIfInBounds_self_of_lt (by omega)]
    · rw [Array.getElem?_setIfInBounds_ne q]
      exact h3 j e (by omega) he
/-- the nodes of the row, by their cells -/
def Sy.Cells (u : World) (b o : Nat) (i : Nat) (x : Nd) : Prop := u.cell? ⟨b, o + i * 5, none⟩ = some (.int .i64 x.kind) ∧ u.cell? ⟨b, o + i * 5 + 2, none⟩ = some (.string x.text) ∧ u.cell? ⟨b, o + i * 5 + 4, none⟩ = some (.int .i64 x.parent)
theorem Sy.nodesAt {w : World} {ns : List Nd} {a : Option Addr} {d : Nat} (h : Nd.Lies w (fun k => k < w.heap.size) ns (.slice a ns.length d)) (hn : 0 < ns.length) : ∃ b o, a = some ⟨b, o, none⟩ ∧ ns.length ≤ d ∧ ∀ u : World, Below w.heap.size w u → ∀ i x, ns[i]? = some x → Sy.Cells u b o i x := by
  obtain ⟨a', d', e, h1, h2, hx⟩ := h
  injection e with e1 e2 e3
  subst e1
  subst e3
  obtain ⟨b, o, av, ea, hb, _⟩ := hx 0 _ (List.getElem?_eq_getElem hn)
  refine ⟨b, o, ea, h1, fun u hu i x hi => ?_⟩
  obtain ⟨b', o', av', ea', hb', c0, c1, c2, c3, c4, hl⟩ := hx i x hi
  rw [ea] at ea'
  injection ea' with ea'
  injection ea' with e1 e2
  subst e1
  subst e2
  exact ⟨by rw [hu.cell hb]; exact c0, by rw [hu.cell hb]; exact c2, by rw [hu.cell hb]; exact c4⟩
theorem Sy.tokenAt {w : World} {R : Nat → Prop} {ts : List Tk} {a : Option Addr} {d : Nat} (h : Tk.Lies w R ts (.slice a ts.length d)) {i : Nat} {t : Tk} (hi : ts[i]? = some t) : ∃ b o, a = some ⟨b, o, none⟩ ∧ w.cell? ⟨b, o + i * 5, none⟩ = some (.int .i64 t.kind) ∧ w.cell? ⟨b, o + i * 5 + 2, none⟩ = some (.string t.text) := by
  obtain ⟨a', d', e, h1, h2, hx⟩ := h
  injection e with e1 e2 e3
  subst e1
  obtain ⟨b, o, av, ea, hb, c0, c1, c2, c3, c4, hl⟩ := hx i t hi
  exact ⟨b, o, ea, c0, c2⟩
theorem Sy.put (A x : ByteArray) (l m : List UInt8) (hA : A.data.toList = l) (hx : x.data.toList = m) : (A ++ x).data.toList = l ++ m := by rw [ByteArray.data_append, Array.toList_append, hA, hx]
theorem Sy.sz (A : ByteArray) (l : List UInt8) (h : A.data.toList = l) : A.size = l.length := by rw [← h, Array.length_toList]; rfl
set_option maxRecDepth 100000 in
set_option maxHeartbeats 8000000 in
theorem Sy.ok (ts : List Tk) (a : Option Addr) (d : Nat) (w : World) (h : Tk.Lies w (· < w.heap.size) ts (.slice a ts.length d)) (hz : Bt.bulk ts ≤ 140737488355328) (hm : ∀ t ∈ ts, t.May) (hr : (Bt.run Bt.start ts).2 = true) :
    Calls Try.prog 4 #[.slice a ts.length d] w fun e w' => e = .returned (.bool true) ∧ Below w.heap.size w w' := by
  obtain ⟨D, hsh⟩ := Bt.Sh.run ts Bt.Sh.start Bt.Ok.start
  have hn4 := Bt.run_len ts Bt.start (by decide) hr
  obtain ⟨hsy, hel⟩ := Bt.run_says ts Bt.start Bt.Ok.start hr
  have hsy : Bt.says (Bt.run Bt.start ts).1.out = Bt.said ts := hsy
  have hel : Bt.elems (Bt.run Bt.start ts).1.out = Bt.tags ts := by rw [hel]; show 0 + _ = _; omega
  have bu := fun (u : World) (hu : Below w.heap.size w u) => Pg.ok ts a d u (h.on fun k hk => ⟨Nat.lt_of_lt_of_le hk hu.size, hu.block k hk⟩) hz hm hr
  have hsl := Sy.said_len ts
  have hdl : ts.length ≤ d := by
    obtain ⟨a', d', e, h1, h2, hx⟩ := h
    injection e with e1 e2 e3
    omega
  have hlen : ts.length ≤ 9223372036854775807 := by
    obtain ⟨a', d', e, h1, h2, hx⟩ := h
    unfold maxLen at h2
    omega
  generalize hM : (Bt.run Bt.start ts).1 = m at *
  clear hM hr hm
  have hnn : 0 < m.out.length := by
    obtain ⟨x, hx, _⟩ := hsh.root
    exact (List.getElem?_eq_some_iff.1 hx).1
  generalize hns : m.out = ns at *
  have SH := Lib.hid hsh
  have HNS := Lib.hid hns
  have HSY := Lib.hid hsy
  have HEL := Lib.hid hel
  have H := Lib.hid h
  have aw := Ta.awake w
  obtain ⟨M, hmk, hms, hml⟩ := Sy.made ns.length hn4
  have HMS := Lib.hid hms
  have HML := Lib.hid hml
  clear hsh hns hsy hel h hml hms
  go_enter Try.func4, Try.ntmps4
  go_upto_region 6 with (first | (go_at_call 15; refine aw.mono ?_; rintro e w1 ⟨rfl, q1⟩; clear aw; have b1 := bu w1 q1; clear bu) | (go_at_call 9; refine b1.mono ?_; rintro e w2 ⟨a2, d2, rfl, l2, b2⟩; clear b1; have q2 : Below w.heap.size w w2 := q1.trans (b2.mono q1.size); have HL2 : Hid (Nd.Lies w2 (fun k => k < w2.heap.size) ns (.slice a2 ns.length d2)) := l2.on (fun k hk => ⟨hk.2.1, rfl⟩); have HQ2 := Lib.hid q2; clear l2 b2 q1 q2) | (go_at_call 12; refine (Ta.num _ _).mono ?_; rintro e w' ⟨rfl, hw⟩; have hw := hw.symm; subst hw))
  obtain ⟨b0, o0, ea2, hd2, hc⟩ := Sy.nodesAt HL2.out hnn
  subst ea2
  have HC := Lib.hid hc
  obtain ⟨r, hr, hr0, hr1⟩ := SH.out.root
  rw [HNS.out] at hr
  obtain ⟨c0, c2, c4⟩ := hc w2 (Below.refl _ _) 0 r hr
  rw [hr0, Nat.zero_mul, Nat.add_zero] at c0
  rw [hr1, Nat.zero_mul, Nat.add_zero] at c4
  have hs1 : Bt.says (ns.take 1) = [] := by
    rw [Sy.says_take ns 0 hnn, (List.getElem?_eq_some_iff.1 hr).2, if_neg (by rw [hr0]; decide)]; rfl
  have HS1 := Lib.hid hs1
  have t0 : ((ns.length : Int) == 0) = false := by rw [beq_eq_false_iff_ne]; omega
  have hd0 : 0 < d2 := by omega
  clear hc c2 hr hr0 hr1 r hs1
  go_wp2
  clear c0 c4 t0 hmk
  go_loopw [6, 7] (fun av ix wr => ∃ (i : Nat) (A : ByteArray), 1 ≤ i ∧ i ≤ ns.length ∧ ix = .int .i64 (i : Int) ∧ av = .string A ∧ A.data.toList = Bt.says (ns.take i) ∧ Hid (Sy.Deep wr w2.heap.size ns.length i D) ∧ Hid (Below w2.heap.size w2 wr)) (fun _ ix _ => ns.length - (intOf ix).toNat)
  case atStart =>
    refine ⟨1, ⟨#[]⟩, Nat.le_refl _, hnn, rfl, rfl, HS1.out.symm, ⟨M, ?_, HMS.out, fun j dj hj hdj => ?_⟩, (Below.refl _ _).alloc (Nat.le_refl _) _⟩
    · show (w2.heap.push _)[w2.heap.size]? = _
      simp
    · have : j = 0 := by omega
      subst this
      rw [SH.out.d0] at hdj
      injection hdj with hdj
      subst hdj
      exact HML.out 0 hnn
  case round =>
    clear HMS HML HS1 HL2
    obtain ⟨i, A, hi1, hi2, rfl, rfl, hA, HD, HB⟩ := hrel
    by_cases hlt : i < ns.length
    · have d1 : decide ((i : Int) < (ns.length : Int)) = true := decide_eq_true (by omega)
      obtain ⟨x, hx⟩ : ∃ x, ns[i]? = some x := ⟨_, List.getElem?_eq_getElem hlt⟩
      obtain ⟨z, hz⟩ : ∃ z, ns[i - 1]? = some z := ⟨_, List.getElem?_eq_getElem (by omega)⟩
      have hxe : ns[i] = x := (List.getElem?_eq_some_iff.1 hx).2
      have hsi := Sy.says_take ns i hlt
      have hle := Sy.says_le ns (i + 1)
      obtain ⟨p, y, dp, hp, hpi, hy, hyk, hxk, hdp, hdi, hdl⟩ := SH.out.node i x hi1 (by rw [HNS.out]; exact hx)
      rw [HNS.out] at hy
      have hadj := SH.out.adj (i - 1) z x (by rw [HNS.out]; exact hz) (by rw [HNS.out, show i - 1 + 1 = i by omega]; exact hx)
      obtain ⟨cx0, cx2, cx4⟩ := HC.out wr HB.out i x hx
      obtain ⟨cy0, cy2, cy4⟩ := HC.out wr HB.out p y hy
      have cd := HD.out.cell hpi hdp
      obtain ⟨vi, ci⟩ := Option.isSome_iff_exists.1 (HD.out.is hlt)
      have cf := HD.out.free i
      have HD2 : Hid (Sy.Deep (wr.setCell ⟨w2.heap.size, i, none⟩ (.int .i64 ((dp : Int) + 1))) w2.heap.size ns.length (i + 1) D) := HD.out.put hlt hdi
      have HB2 := Lib.hid (HB.out.setCell (p := ⟨w2.heap.size, i, none⟩) (Nat.le_refl _) (.int .i64 ((dp : Int) + 1)))
      have HCI : Hid ((wr.setCell ⟨w2.heap.size, i, none⟩ (.int .i64 ((dp : Int) + 1))).cell? ⟨w2.heap.size, i, none⟩ = some (.int .i64 ((dp : Int) + 1))) := HD2.out.cell (Nat.lt_succ_self _) hdi
      have HCX := Lib.hid (HC.out _ HB2.out i x hx)
      have HCZ := Lib.hid (HC.out _ HB2.out (i - 1) z hz)
      have hid : i < d2 := by omega
      have hpd : p < d2 := by omega
      have hzd : i - 1 < d2 := by omega
      have hpn : p < ns.length := by omega
      have hzn : i - 1 < ns.length := by omega
      have hw1 : IntKind.i64.wrap ((i : Int) - 1) = ((i - 1 : Nat) : Int) := by rw [IntKind.wrap_i64]; omega
      have hw2 : IntKind.i64.wrap ((dp : Int) + 1) = (dp : Int) + 1 := by rw [IntKind.wrap_i64]; omega
      have p1 : decide ((p : Int) < 0) = false := decide_eq_false (by omega)
      have p2 : decide ((i : Int) ≤ (p : Int)) = false := decide_eq_false (by omega)
      have p3 : decide (33 < (dp : Int) + 1) = false := decide_eq_false (by omega)
      have k0 : (x.kind == 0) = false := by rw [beq_eq_false_iff_ne]; exact hxk
      rw [hp] at cx4 hadj
      rw [hxe] at hsi
      have hsz := Sy.sz A _ hA
      rw [hsi, List.length_append] at hle
      have hle2 : A.size + (if x.kind = 2 then x.text.data.toList else []).length ≤ 9223372036854775807 := by
        have := HSY.out
        rw [this] at hle
        omega
      clear hx hz hy cy2 cy4 hxe hp hdp hdi hle hsz hxk
      have done : ∀ B : ByteArray, B.data.toList = Bt.says (ns.take (i + 1)) → True := fun _ _ => trivial
      have HA := Lib.hid hA
      have HSI := Lib.hid hsi
      have HLE := Lib.hid hle2
      have HADJ := Lib.hid hadj
      clear hA hsi hle2 hadj done
      rcases hyk with hyk | hyk
      all_goals
        rw [hyk] at cy0
        clear hyk
        go_upto_region 17 with fail
        clear cx0 cx2 cx4 cy0 cd ci cf
        generalize wr.setCell ⟨w2.heap.size, i, none⟩ (.int .i64 ((dp : Int) + 1)) = wn at *
        obtain ⟨cx0, cx2, cx4⟩ := id HCX.out
        obtain ⟨cz0, cz2, cz4⟩ := id HCZ.out
        have ci := HCI.out
        clear cz2
        by_cases hx2 : x.kind = 2
        · rw [hx2] at cx0
          have hz2 : ∀ q : z.kind = 2, (z.parent == (p : Int)) = false := fun q => by rw [beq_eq_false_iff_ne]; exact HADJ.out q hx2
          have HL := HLE.out
          rw [if_pos hx2, Array.length_toList] at HL
          have HL : A.size + x.text.size ≤ 9223372036854775807 := HL
          have hs2 : (A ++ x.text).data.toList = Bt.says (ns.take (i + 1)) := by rw [HSI.out, if_pos hx2]; exact Sy.put A x.text _ _ HA.out rfl
          have HS2 := Lib.hid hs2
          clear hx2 k0 hs2
          by_cases hzk : z.kind = 2
          · have k3 := hz2 hzk
            rw [hzk] at cz0
            clear hzk hz2
            go_wp2
            go_roundw
            case rel => exact ⟨i + 1, A ++ x.text, by omega, by omega, by go_num, rfl, HS2.out, HD2, HB2⟩
            case measure => simp [intOf]; omega
          · have k3 : (z.kind == 2) = false := by rw [beq_eq_false_iff_ne]; exact hzk
            clear hzk hz2
            go_wp2
            go_roundw
            case rel => exact ⟨i + 1, A ++ x.text, by omega, by omega, by go_num, rfl, HS2.out, HD2, HB2⟩
            case measure => simp [intOf]; omega
        · have k2 : (x.kind == 2) = false := by rw [beq_eq_false_iff_ne]; exact hx2
          have HX2 := Lib.hid hx2
          clear hx2
          go_wp2
          go_roundw
          case rel => exact ⟨i + 1, A, by omega, by omega, by go_num, rfl, by rw [HSI.out, if_neg HX2.out, List.append_nil]; exact HA.out, HD2, HB2⟩
          case measure => simp [intOf]; omega
    · have e : i = ns.length := by omega
      subst e
      have d1 : decide ((ns.length : Int) < (ns.length : Int)) = false := decide_eq_false (by omega)
      rw [List.take_length, HSY.out] at hA
      have HA := Lib.hid hA
      have HW : Hid (Below w.heap.size w wr) := HQ2.out.trans (HB.out.mono HQ2.out.size)
      have HT : Hid (Tk.Lies wr (fun k => k < w.heap.size) ts (.slice a ts.length d)) := H.out.on fun k hk => ⟨hk, HW.out.block k hk⟩
      clear hA HD H
      go_wp2
      clear d1
      go_loopw [9, 10, 12] (fun bv tg ix wn => ∃ (j : Nat) (B : ByteArray), j ≤ ts.length ∧ ix = .int .i64 (j : Int) ∧ bv = .string B ∧ B.data.toList = Bt.said (ts.take j) ∧ tg = .int .i64 (Bt.tags (ts.take j) : Int) ∧ wn = wr) (fun _ _ ix _ => ts.length - (intOf ix).toNat)
      case atStart => exact ⟨0, ⟨#[]⟩, Nat.zero_le _, rfl, rfl, rfl, rfl, rfl⟩
      case round =>
        obtain ⟨j, B, hj, rfl, rfl, hB, rfl, rfl⟩ := hrel
        by_cases hlt2 : j < ts.length
        · have d1 : decide ((j : Int) < (ts.length : Int)) = true := decide_eq_true (by omega)
          obtain ⟨t, ht⟩ : ∃ t, ts[j]? = some t := ⟨_, List.getElem?_eq_getElem hlt2⟩
          have hte : ts[j] = t := (List.getElem?_eq_some_iff.1 ht).2
          have hsi := Sy.said_take ts j hlt2
          have hti := Sy.tags_take ts j hlt2
          have hle := Sy.said_le ts (j + 1)
          have htl := Sy.tags_le (ts.take j)
          rw [List.length_take] at htl
          obtain ⟨b1, o1, ea, c0, c2⟩ := Sy.tokenAt HT.out ht
          subst ea
          have hjd : j < d := by omega
          rw [hte] at hsi hti
          have hsz := Sy.sz B _ hB
          rw [hsi, List.length_append] at hle
          have hle2 : B.size + (if t.kind = 0 then t.text.data.toList else []).length ≤ 9223372036854775807 := by omega
          have hw1 : IntKind.i64.wrap ((Bt.tags (ts.take j) : Int) + 1) = (Bt.tags (ts.take j) : Int) + 1 := by rw [IntKind.wrap_i64]; omega
          have HSB := Lib.hid hB
          have HSI := Lib.hid hsi
          have HTI := Lib.hid hti
          have HLE := Lib.hid hle2
          clear ht hte hle hsz hB hsi hti hle2 htl
          by_cases k0 : t.kind = 0
          · rw [k0] at c0
            have HL := HLE.out
            rw [if_pos k0, Array.length_toList] at HL
            have HL : B.size + t.text.size ≤ 9223372036854775807 := HL
            have hs2 : (B ++ t.text).data.toList = Bt.said (ts.take (j + 1)) := by rw [HSI.out, if_pos k0]; exact Sy.put B t.text _ _ HSB.out rfl
            have ht2 : Bt.tags (ts.take (j + 1)) = Bt.tags (ts.take j) := by rw [HTI.out, k0]; rfl
            have HS2 := Lib.hid hs2
            have HT2 := Lib.hid ht2
            clear k0 hs2 ht2
            go_wp2
            go_roundw
            case rel => exact ⟨j + 1, B ++ t.text, by omega, by go_num, rfl, HS2.out, by rw [HT2.out], trivial⟩
            case measure => simp [intOf]; omega
          · have hs2 : B.data.toList = Bt.said (ts.take (j + 1)) := by rw [HSI.out, if_neg k0, List.append_nil]; exact HSB.out
            have HS2 := Lib.hid hs2
            clear c2 hs2
            by_cases k1 : t.kind = 1
            · rw [k1] at c0
              have ht2 : Bt.tags (ts.take (j + 1)) = Bt.tags (ts.take j) + 1 := by rw [HTI.out, k1]; rfl
              have HT2 := Lib.hid ht2
              clear k0 k1 ht2
              go_wp2
              go_roundw
              case rel => exact ⟨j + 1, B, by omega, by go_num, rfl, HS2.out, by rw [HT2.out]; go_num, trivial⟩
              case measure => simp [intOf]; omega
            · have e0 : (t.kind == 0) = false := by rw [beq_eq_false_iff_ne]; exact k0
              have e1 : (t.kind == 1) = false := by rw [beq_eq_false_iff_ne]; exact k1
              have ht2 : Bt.tags (ts.take (j + 1)) = Bt.tags (ts.take j) := by rw [HTI.out, if_neg k1]; rfl
              have HT2 := Lib.hid ht2
              clear k0 k1 ht2
              go_wp2
              go_roundw
              case rel => exact ⟨j + 1, B, by omega, by go_num, rfl, HS2.out, by rw [HT2.out], trivial⟩
              case measure => simp [intOf]; omega
        · have e : j = ts.length := by omega
          subst e
          have d1 : decide ((ts.length : Int) < (ts.length : Int)) = false := decide_eq_false (by omega)
          rw [List.take_length] at hB
          rw [List.take_length]
          have e : A = B := ByteArray.ext (Array.ext' (HA.out.trans hB.symm))
          subst e
          rw [← HEL.out]
          clear hB HT
          go_wp2
          clear d1
          go_loopw [11, 13] (fun ev ix wn => ∃ j : Nat, j ≤ ns.length ∧ ix = .int .i64 (j : Int) ∧ ev = .int .i64 (Bt.elems (ns.take j) : Int) ∧ wn = wr) (fun _ ix _ => ns.length - (intOf ix).toNat)
          case atStart => exact ⟨0, Nat.zero_le _, rfl, rfl, rfl⟩
          case round =>
            obtain ⟨j, hj, rfl, rfl, rfl⟩ := hrel
            by_cases hlt3 : j < ns.length
            · have d1 : decide ((j : Int) < (ns.length : Int)) = true := decide_eq_true (by omega)
              obtain ⟨x, hx⟩ : ∃ x, ns[j]? = some x := ⟨_, List.getElem?_eq_getElem hlt3⟩
              have hxe : ns[j] = x := (List.getElem?_eq_some_iff.1 hx).2
              have hei := Sy.elems_take ns j hlt3
              have hel := Sy.elems_le (ns.take j)
              rw [List.length_take] at hel
              rw [hxe] at hei
              obtain ⟨c0, c2, c4⟩ := HC.out wr HB.out j x hx
              have hjd : j < d2 := by omega
              have hw1 : IntKind.i64.wrap ((Bt.elems (ns.take j) : Int) + 1) = (Bt.elems (ns.take j) : Int) + 1 := by rw [IntKind.wrap_i64]; omega
              clear hx hxe c2 c4 hel
              by_cases k1 : x.kind = 1
              · rw [k1] at c0
                have he2 : Bt.elems (ns.take (j + 1)) = Bt.elems (ns.take j) + 1 := by rw [hei, k1]; rfl
                have HE2 := Lib.hid he2
                clear k1 he2 hei
                go_wp2
                go_roundw
                case rel => exact ⟨j + 1, by omega, by go_num, by rw [HE2.out]; go_num, trivial⟩
                case measure => simp [intOf]; omega
              · have e1 : (x.kind == 1) = false := by rw [beq_eq_false_iff_ne]; exact k1
                have he2 : Bt.elems (ns.take (j + 1)) = Bt.elems (ns.take j) := by rw [hei, if_neg k1]; rfl
                have HE2 := Lib.hid he2
                clear k1 he2 hei
                go_wp2
                go_roundw
                case rel => exact ⟨j + 1, by omega, by go_num, by rw [HE2.out], trivial⟩
                case measure => simp [intOf]; omega
            · have e : j = ns.length := by omega
              subst e
              have d1 : decide ((ns.length : Int) < (ns.length : Int)) = false := decide_eq_false (by omega)
              rw [List.take_length]
              go_wp2
              go_ret
              exact ⟨by simp, HW.out⟩
set_option maxRecDepth 100000 in
set_option maxHeartbeats 4000000 in
/-- no tree: nothing came back -/
theorem Sy.none (ts : List Tk) (a : Option Addr) (d : Nat) (w : World) (k : Int) (hk : (k != 0) = true) (bu : ∀ u : World, Below w.heap.size w u → Calls Try.prog 9 #[.slice a ts.length d] u fun e w' => e = .returned (.tuple #[.slice none 0 0, .int .i64 k]) ∧ Below u.heap.size u w') :
    Calls Try.prog 4 #[.slice a ts.length d] w fun e w' => e = .returned (.bool true) ∧ Below w.heap.size w w' := by
  have aw := Ta.awake w
  go_enter Try.func4, Try.ntmps4
  go_wp2_with (first | (go_at_call 15; refine aw.mono ?_; rintro e w1 ⟨rfl, q1⟩; clear aw; have b1 := bu w1 q1; clear bu) | (go_at_call 9; refine b1.mono ?_; rintro e w2 ⟨rfl, b2⟩; clear b1; have HQ2 : Hid (Below w.heap.size w w2) := q1.trans (b2.mono q1.size); clear b2 q1) | (go_at_call 12; refine (Ta.num _ _).mono ?_; rintro e w' ⟨rfl, hw⟩; have hw := hw.symm; subst hw))
  go_ret
  exact ⟨rfl, HQ2.out⟩
theorem Law.treeShapes (ts : List Tk) (a : Option Addr) (d : Nat) (w : World) (h : Tk.Lies w (· < w.heap.size) ts (.slice a ts.length d)) (hz : Bt.bulk ts ≤ 140737488355328) :
    Calls Try.prog 4 #[.slice a ts.length d] w fun e w' => e = .returned (.bool true) ∧ Below w.heap.size w w' := by
  have on := fun (u : World) (hu : Below w.heap.size w u) => h.on (R' := (· < u.heap.size)) (w' := u) fun k hk => ⟨Nat.lt_of_lt_of_le hk hu.size, hu.block k hk⟩
  by_cases hm : ∀ t ∈ ts, t.May
  · cases hr : (Bt.run Bt.start ts).2 with
    | true => exact Sy.ok ts a d w h hz hm hr
    | false => exact Sy.none ts a d w 701 rfl fun u hu => Pg.full ts a d u (on u hu) hz hm hr
  · exact Sy.none ts a d w 700 rfl fun u hu => Pg.form ts a d u (on u hu) hz hm
end Go.Proofs.Ythfobjkdcncoiaa

/-
  THE WALK of stolelaw8.awake.
-/
import Derived.Test.YtblpkjlodncpeaaGreatDoorAPSkeltoTSim2
import Derived.Test.YtblpkjlodncpeaaGreatDoorAUProgtoKAw
import Derived.Test.YtblpkjlodncpeaaGreatDoorAKShifttoTAny
namespace Go.Proofs.YtblpkjlodncpeaaGreatDoor
open Go.RowKit
theorem A8.num (a : Int) (w : World) : Calls Tryz.prog 14 #[.int .i64 a] w fun e w' => e = .returned (.int .i64 a) ∧ w' = w := by
  go_enter Tryz.func14, Tryz.ntmps14
  go_wp2
  go_ret
  exact ⟨rfl, rfl⟩
theorem A8.zeros (n : Nat) (hn : n ≤ 281474976710656) : ∃ (M : Array Value) (S : ByteArray), S.size = n ∧ (∀ u : World, (Instr.makeSlice 43 (.int .i64 (n : Int)) (.int .i64 (n : Int))).run Tryz.prog u = .ok (.slice (some ⟨u.heap.size, 0, none⟩) n n) (u.alloc (.cells M 5))) ∧ ∀ u : World, (convert 43 9 (.slice (some ⟨u.heap.size, 0, none⟩) n n)).run Tryz.prog (u.alloc (.cells M 5)) = .ok (.string S) (u.alloc (.cells M 5)) := by
  obtain ⟨i0, hi, hz0, hz1, hz2⟩ := info_parts Ns.infoB
  refine ⟨madeCells #[.int .u8 0] n, ⟨(List.replicate n (0 : UInt8)).toArray⟩, ?_, fun u => ?_, fun u => ?_⟩
  · show (List.replicate n (0 : UInt8)).toArray.size = n
    simp
  · have h := run_make (P := Tryz.prog) u 43 5 i0 (.int .u8 0) Tryz.underlying43 hi hz0 .i64 .i64 (n : Int) (n : Int) (by omega) (Int.le_refl _) (by rw [hz2]; omega) (by omega)
    simpa [hz1, Value.cells] using h
  · have hc : (madeCells #[.int .u8 0] n).toList = Lib.byteCells (List.replicate n 0) := by
      rw [toList_madeCells_one]
      unfold Lib.byteCells
      rw [List.map_replicate]
      rfl
    have ho := World.ownsRow_lit (base := 0) (e := 5) (size := 1) u (madeCells #[.int .u8 0] n) n (Nat.zero_le _) (by unfold maxLen; omega) (by rw [size_madeCells]; try simp)
    rw [hc] at ho
    exact Dm.conv (acc := List.replicate n 0) (by rw [List.length_replicate]; exact ho)
theorem A8.form {w : World} {R : Nat → Prop} {ss : List ByteArray} {v : Value} (h : St.Lies w R ss v) : ∃ a d, v = .slice a ss.length d := by
  obtain ⟨a, d, e, _⟩ := h
  exact ⟨a, d, e⟩
set_option maxRecDepth 100000 in
set_option maxHeartbeats 4000000 in
theorem A8.awake (m : Int) (w : World) (hm : w.cell? ⟨1, 0, none⟩ = some (.int .i64 m)) (ht : Pq.Tab w) :
    Calls Tryz.prog 17 #[] w fun e w' => e = .returned (.bool true) ∧ Below w.heap.size w w' := by
  obtain ⟨M, S, hSz, hmk, hcv⟩ := A8.zeros 65537 (by decide)
  have hmk1 : ∀ u : World, (Instr.makeSlice 43 (.int .i64 65537) (.int .i64 65537)).run Tryz.prog u = .ok (.slice (some ⟨u.heap.size, 0, none⟩) 65537 65537) (u.alloc (.cells M 5)) := hmk
  have pa := Pq.parse m Ka.page Ka.nodes 0 Ka.is w (by decide) hm
  have hL := Ka.long S (by omega)
  have HM := Lib.hid hm
  have HTB := Lib.hid ht
  have hnl : Ka.nodes.length = 6 := rfl
  have hlen := Ka.skel
  have HT := Lib.hid Ka.texts
  have HMAY := Lib.hid (Ka.is.may rfl)
  rw [hnl] at pa
  unfold Ka.page at pa
  have hSm : S.size ≤ maxLen := by rw [hSz]; decide
  clear hmk hm ht
  go_enter Tryz.func17, Tryz.ntmps17
  go_upto_region 4 with (first | (go_at_call 7; refine pa.mono ?_; rintro e w1 ⟨a1, d1, rfl, l1, b1⟩; clear pa; have L1 : Nd.Lies w1 (· < w1.heap.size) Ka.nodes (.slice a1 Ka.nodes.length d1) := l1.on (fun j hj => ⟨hj.2.1, rfl⟩); have sa := Pq.skeleton Ka.nodes a1 d1 w1 L1 (by decide) (by rw [hlen]; decide) (HTB.out.on b1); rw [hnl] at sa; clear l1) | (go_at_call 9; refine sa.mono ?_; rintro e w2 ⟨b2, hc⟩; clear sa; have he : e = .returned (.tuple #[.string ⟨(Sk.skel Ka.nodes).toArray⟩, .int .i64 0]) := (by rcases hc with q | q; exact absurd HMAY.out q.1; exact q.2); subst he; rw [hlen]; have ta := Pq.texts Ka.nodes a1 d1 w2 (L1.on fun j hj => ⟨Nat.lt_of_lt_of_le hj b2.size, b2.block j hj⟩) (by decide) (by decide); rw [hnl] at ta; clear hc) | (go_at_call 11; refine ta.mono ?_; rintro e w3 ⟨b3, hc⟩; clear ta; obtain ⟨v3, he, l3⟩ : ∃ v, e = .returned (.tuple #[v, .int .i64 0]) ∧ St.Lies w3 (fun k => w2.heap.size ≤ k ∧ k < w3.heap.size) (Sk.texts Ka.nodes) v := (by rcases hc with q | q; exact absurd HMAY.out q.1; exact q.2); subst he; clear hc))
  rw [HT.out] at l3
  obtain ⟨a3, d3, rfl⟩ := A8.form l3
  have q3 : Below w.heap.size w w3 := (b1.trans (b2.mono b1.size)).trans (b3.mono (b1.trans (b2.mono b1.size)).size)
  have s3 := q3.size
  have q4 : Below w.heap.size w (w3.alloc (.cells M 5)) := q3.alloc s3 _
  have hcv3 := hcv w3
  have pb := Pq.parse m S [] 500 hL (w3.alloc (.cells M 5)) hSm (by rw [q4.cell (World.block_lt_of_cell? _ _ HM.out)]; exact HM.out)
  have HL3 := Lib.hid l3
  have HQ3 := Lib.hid q3
  have HQ4 := Lib.hid q4
  clear l3 q3 q4 b1 b2 b3 L1 hcv hL
  go_wp2_with (first | (go_at_call 7; refine pb.mono ?_; rintro e w5 ⟨a5, d5, rfl, l5, b5⟩; clear pb hcv3 l5; have HQ5 := Lib.hid (HQ4.out.trans (b5.mono HQ4.out.size)); have HL5 : Hid (St.Lies w5 (fun k => w2.heap.size ≤ k ∧ k < w3.heap.size) [⟨#[120]⟩, ⟨#[121]⟩] (.slice a3 2 d3)) := HL3.out.on (fun k hk => ⟨hk, (b5.block k (by simp; omega)).trans (Below.heap_alloc _ _ _ hk.2)⟩); have hs5 : w3.heap.size ≤ w5.heap.size := Nat.le_trans (by simp) b5.size; have sb := Pq.skeleton [] none 0 w5 (Nm.nilNodes _ _) (by decide) (by decide) (HTB.out.on HQ5.out); clear b5) | (go_at_call 9; refine sb.mono ?_; rintro e w6 ⟨b6, hc⟩; clear sb; have he : e = .returned (.tuple #[.string ⟨#[]⟩, .int .i64 800]) := (by rcases hc with q | q; exact q.2; exact absurd q.1 Ka.noNodes); subst he; have HQ6 := Lib.hid (HQ5.out.trans (b6.mono HQ5.out.size)); have HL6 : Hid (St.Lies w6 (fun k => w2.heap.size ≤ k ∧ k < w3.heap.size) [⟨#[120]⟩, ⟨#[121]⟩] (.slice a3 2 d3)) := HL5.out.on (fun k hk => ⟨hk, b6.block k (by omega)⟩); have hs6 : w3.heap.size ≤ w6.heap.size := Nat.le_trans hs5 b6.size; clear hc b6) | (go_at_call 14; refine (A8.num _ _).mono ?_; rintro e w' ⟨rfl, hw⟩; have hw := hw.symm; subst hw) | (go_at_call 15; refine (St.same [⟨#[120]⟩, ⟨#[121]⟩] [⟨#[120]⟩, ⟨#[121]⟩] a3 (some ⟨w6.heap.size, 0, none⟩) d3 2 (fun k => w2.heap.size ≤ k ∧ k < w3.heap.size) (fun _ => True) _ (HL6.out.on (fun k hk => ⟨hk, Below.heap_alloc _ _ _ (by omega)⟩)) ⟨some ⟨w6.heap.size, 0, none⟩, 2, rfl, Nat.le_refl _, by decide, fun i s hi => by have : i = 0 ∨ i = 1 := (by have := (List.getElem?_eq_some_iff.1 hi).1; simp at this; omega); rcases this with rfl | rfl; exact ⟨_, 0, rfl, trivial, by simp at hi; rw [← hi]; simp⟩; exact ⟨_, 0, rfl, trivial, by simp at hi; rw [← hi]; simp⟩⟩ rfl).mono ?_; rintro e w7 ⟨rfl, n7, rfl⟩))
  go_ret
  exact ⟨rfl, Um.drews (HQ6.out.alloc HQ6.out.size _) _⟩
end Go.Proofs.YtblpkjlodncpeaaGreatDoor
/-
  PLAIN: how long the lines of a page are.
-/
namespace Go.Proofs.YtblpkjlodncpeaaGreatDoor
theorem Kb.dec : ∀ (k u : Nat), u < 10 ^ (k + 1) → (Lib.decDigits u).length ≤ k + 1
  | 0, u, h => by
    rw [Lib.decDigits, dif_pos (by simpa using h)]
    exact Nat.le_refl _
  | k + 1, u, h => by
    rw [Lib.decDigits]
    split
    · show 1 ≤ _
      omega
    · rw [List.length_append]
      have := Kb.dec k (u / 10) (by rw [Nat.div_lt_iff_lt_mul (by decide)]; rw [Nat.pow_succ] at h; exact h)
      show _ + 1 ≤ _
      omega
def Kb.ats (x : Nd) : Nat := (x.attrs.map fun a => a.1.size + 1).sum
def Kb.w (x : Nd) : Nat := if x.kind = 2 then 0 else 30 + ((if x.kind = 3 then x.text.size else x.name.size) + Kb.ats x)
theorem Kb.flat (l : List (ByteArray × ByteArray)) : (l.flatMap (fun a => 32 :: a.1.data.toList)).length = (l.map fun a => a.1.size + 1).sum := by
  induction l with
  | nil => rfl
  | cons a l ih =>
    rw [List.flatMap_cons, List.length_append, List.map_cons, List.sum_cons, ih, List.length_cons, Array.length_toList]
    rfl
theorem Kb.one (pre : List Nd) (x : Nd) (h : pre.length ≤ 99999999999999999999) : (Sk.one pre x).length ≤ Kb.w x := by
  unfold Sk.one Kb.w
  split
  · exact Nat.zero_le _
  · have hn : Sk.num pre x.parent.toNat ≤ 99999999999999999999 := by
      unfold Sk.num
      refine Nat.le_trans List.countP_le_length ?_
      rw [List.length_tail, List.length_take]
      omega
    have hd := Kb.dec 19 (Sk.num pre x.parent.toNat) (by omega)
    unfold Sk.line
    rw [List.length_append, List.length_append, List.length_append, Kb.flat]
    unfold Kb.ats
    have e1 : x.text.data.toList.length = x.text.size := by rw [Array.length_toList]; rfl
    have e2 : x.name.data.toList.length = x.name.size := by rw [Array.length_toList]; rfl
    split
    · rw [List.length_append, e1]
      simp only [List.length_cons, List.length_nil]
      omega
    · rw [List.length_append, e2]
      simp only [List.length_cons, List.length_nil]
      omega
theorem Kb.linesFrom : ∀ (l pre : List Nd), pre.length + l.length ≤ 99999999999999999999 → (Sk.linesFrom pre l).length ≤ (l.map Kb.w).sum
  | [], _, _ => Nat.le_refl _
  | x :: l, pre, h => by
    have h : pre.length + (l.length + 1) ≤ 99999999999999999999 := h
    show (Sk.one pre x ++ Sk.linesFrom (pre ++ [x]) l).length ≤ _
    rw [List.length_append, List.map_cons, List.sum_cons]
    have h1 := Kb.one pre x (by omega)
    have h2 := Kb.linesFrom l (pre ++ [x]) (by rw [List.length_append]; simp; omega)
    omega
theorem Kb.skel (ns : List Nd) (h : ns.length ≤ 99999999999999999999) : (Sk.skel ns).length ≤ (ns.map Kb.w).sum := by
  cases ns with
  | nil => exact Nat.le_refl _
  | cons r l =>
    rw [List.map_cons, List.sum_cons]
    have h : l.length + 1 ≤ 99999999999999999999 := h
    have := Kb.linesFrom l [r] (by show 1 + l.length ≤ _; omega)
    show (Sk.linesFrom [r] l).length ≤ _
    omega
/-- what the tokens bound, the nodes keep -/
def Kb.N (L : Nat) (x : Nd) : Prop := (x.kind ≠ 2 → x.text.size ≤ L) ∧ x.name.size ≤ 32
theorem Kb.token {L : Nat} {m : Bt} (h : ∀ x ∈ m.out, Kb.N L x) (t : Tk) (ht : t.text.size ≤ L) (hn : t.name.size ≤ 32) : ∀ x ∈ (m.token t).out, Kb.N L x := by
  have hnode : ∀ y : Nd, Kb.N L { y with parent := (m.top : Int) } → ∀ x ∈ (m.node y).out, Kb.N L x := fun y hy x hx => by
    rcases List.mem_append.1 hx with q | q
    · exact h x q
    · rw [List.mem_singleton.1 q]; exact hy
  unfold Bt.token
  split
  · split
    · exact h
    · split
      · next q =>
        intro x hx
        rcases List.mem_or_eq_of_mem_set hx with r | r
        · exact h x r
        · rw [r]
          refine ⟨fun e => absurd q.1 e, ?_⟩
          show (m.nth m.last).name.size ≤ 32
          unfold Bt.nth
          cases e : m.out[m.last]? with
          | none => exact Nat.zero_le _
          | some z => exact (h z (List.mem_of_getElem? e)).2
      · exact hnode _ ⟨fun e => absurd rfl e, Nat.zero_le _⟩
  split
  · exact hnode _ ⟨fun _ => ht, Nat.zero_le _⟩
  split
  · split
    · exact hnode _ ⟨fun _ => Nat.zero_le _, hn⟩
    · exact hnode _ ⟨fun _ => Nat.zero_le _, hn⟩
  split
  · split
    · exact h
    · exact h
  · exact h
theorem Kb.run {L : Nat} : ∀ (ts : List Tk) {m : Bt}, (∀ x ∈ m.out, Kb.N L x) → (∀ t ∈ ts, t.text.size ≤ L ∧ t.name.size ≤ 32) → ∀ x ∈ (Bt.run m ts).1.out, Kb.N L x
  | [], _, h, _ => h
  | t :: ts, m, h, ht => by
    unfold Bt.run
    have h1 := Kb.token h t (ht t List.mem_cons_self).1 (ht t List.mem_cons_self).2
    split
    · exact h1
    · exact Kb.run ts h1 (fun u hu => ht u (List.mem_cons_of_mem _ hu))
/-- the nodes of a page that was read -/
theorem Kb.nice {s : ByteArray} {ns : List Nd} {k : Int} (h : Kp.Is s ns k) : ∀ x ∈ ns, x.attrs.length ≤ 32 ∧ (∀ y ∈ x.attrs, y.1.size ≤ 32) ∧ Kb.N 524288 x := by
  rcases h with ⟨_, rfl, _⟩ | ⟨hs, ⟨_, rfl, _⟩ | ⟨_, _, rfl, _⟩ | ⟨hm, hr, rfl, _⟩⟩
  · exact fun _ h => (nomatch h)
  · exact fun _ h => (nomatch h)
  · exact fun _ h => (nomatch h)
  · intro x hx
    obtain ⟨h1, h2⟩ := Bt.nice (Rd.tokens s) hm (fun t ht => (Rf.Nice.tokens s t ht).2.2) x hx
    refine ⟨h1, h2, Kb.run (Rd.tokens s) (m := Bt.start) (fun z hz => by rw [List.mem_singleton.1 hz]; exact ⟨fun _ => Nat.zero_le _, Nat.zero_le _⟩) (fun t ht => ⟨?_, (Rf.Nice.tokens s t ht).1⟩) x hx⟩
    have := ((Kp.toks s).1 t ht).1
    omega
theorem Kb.page {s : ByteArray} {ns : List Nd} {k : Int} (h : Kp.Is s ns k) : (Sk.skel ns).length + 32 ≤ 140737488355328 := by
  have hl := h.len
  have hn := Kb.nice h
  refine Nat.le_trans (Nat.add_le_add_right (Kb.skel ns (by omega)) 32) ?_
  have := Kp.sum_le (ns.map Kb.w) 1048576 (fun q hq => by
    obtain ⟨x, hx, rfl⟩ := List.mem_map.1 hq
    obtain ⟨h1, h2, h3, h4⟩ := hn x hx
    unfold Kb.w
    split
    · exact Nat.zero_le _
    · next c =>
      have hat : Kb.ats x ≤ 32 * 33 := by
        unfold Kb.ats
        have := Kp.sum_le (x.attrs.map fun a => a.1.size + 1) 33 (fun q hq => by
          obtain ⟨y, hy, rfl⟩ := List.mem_map.1 hq
          have := h2 y hy
          show y.1.size + 1 ≤ 33
          omega)
        rw [List.length_map] at this
        have h5 : x.attrs.length * 33 ≤ 32 * 33 := Nat.mul_le_mul_right _ h1
        omega
      have := h3 c
      split <;> omega)
  rw [List.length_map] at this
  have h5 : ns.length * 1048576 ≤ 4096 * 1048576 := Nat.mul_le_mul_right _ hl
  omega
end Go.Proofs.YtblpkjlodncpeaaGreatDoor

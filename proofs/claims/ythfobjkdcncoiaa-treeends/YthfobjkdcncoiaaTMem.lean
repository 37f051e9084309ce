/-
  TOKENS AND ATTRIBUTES IN MEMORY; the reader's own block.
-/
import Derived.Test.YthfobjkdcncoiaaTKit
import Derived.Laws.AppendOwn
import Derived.Laws.OwnMore
import Derived.Deep.RegionLaw
namespace Go.Proofs.Ythfobjkdcncoiaa
open Go.RowKit

theorem Ro.add (b o j : Nat) : (⟨b, o, none⟩ : Addr).add j = ⟨b, o + j, none⟩ := by unfold Addr.add; split <;> simp_all
/-- where the row lies behind an 'append': where it lay, or in a new block -/
theorem Ro.fresh {P : Program} {w : World} (base : Nat) (t ty e : TypeId) (i : TypeInfo) (z : Value) (size bytes : Nat) (ht : P.underlying t = some (.slice e)) (hi : P.info? e = some i) (hz : i.zero = some z)
    (hsize : i.size = size) (hby : i.bytes = bytes) (hsz : 0 < size)
    (v : Value) (n : Nat) (xs : List Value) (hown : w.ownsRow base e size v n xs)
    (a : Addr) (m c : Nat) (hm : 0 < m) (news : List Value) (hl : news.length = m * size) (hnews : ∀ j u, news[j]? = some u → w.cell? (a.add j) = some u) (h1 : ∀ u ∈ news, u.oneCell' = true)
    (h63 : n + m ≤ maxLen) (hbytes : (n + m) * bytes ≤ 140737488355328) (v' : Value) (w' : World) (hrun : (Builtin.append_ #[t, t] ty #[v, .slice (some a) m c]).run P w = .ok v' w') :
    v'.ownBlock = v.ownBlock ∨ v'.ownBlock = some w.heap.size := by
  subst hsize
  subst hby
  have hsmall : n + m ≤ 9223372036854775807 := by simp only [maxLen] at h63; omega
  rcases hown.2 with ⟨rfl, rfl⟩ | ⟨g, cap, cur, rfl, hbg, hg, hnc, hcm, hcs, htake⟩
  · have hr := run_append_nil (P := P) w t ty e i z ht hi hz a m c news hl hnews (by omega) (by omega) (by have hb := hbytes; simp only [Nat.zero_add] at hb; omega)
    rw [hr] at hrun
    injection hrun with e1 e2
    subst e1
    exact .inr rfl
  · by_cases hroom : n + m ≤ cap
    · have hfit : n * i.size + news.length ≤ cur.size := by rw [hl, hcs, ← Nat.add_mul]; exact Nat.mul_le_mul_right _ hroom
      have hr := run_append_room (P := P) w t ty e i ht hi g n cap cur hg a m c news hl hnews h1 hroom hfit
      rw [hr] at hrun
      injection hrun with e1 e2
      subst e1
      exact .inl rfl
    · have holds : ∀ j u, xs[j]? = some u → w.cell? ((⟨g, 0, none⟩ : Addr).add j) = some u := hown.cells (g := g) rfl
      have hr := run_append_grow (P := P) w t ty e i z ht hi hz ⟨g, 0, none⟩ n cap xs hown.1 holds a m c news hl hnews (by omega) (by omega) (growslice_fits (by omega) hbytes)
      rw [hr] at hrun
      injection hrun with e1 e2
      subst e1
      exact .inr rfl
/-- 'append(row, x)': one element more in a row of its own -/
theorem Ro.wp_push {w : World} {o : Oper} {a : Act} {K : Act → World → Prop} {Z : Exit → Act → World → Prop} (s x : Operand) (t e : TypeId) (size bytes : Nat) (z : Value)
    (ho : o.op = .call { callee := .builtin .append, args := #[s, x], argTypes := #[t, t] })
    (ht : Try.prog.underlying t = some (.slice e)) (hi : (Try.prog.info? e).map (fun i => (i.zero, i.size, i.bytes)) = some (some z, size, bytes)) (hzs : z.cells.size = size) (hsz : 0 < size)
    {base n : Nat} {xs : List Value} (v : Value) (hs : a.eval s = v) (hown : w.ownsRow base e size v n xs) (g1 : Nat) (news : List Value)
    (hx : a.eval x = .slice (some ⟨g1, 0, none⟩) 1 1) (hg1 : ∀ j u, news[j]? = some u → w.cell? ⟨g1, j, none⟩ = some u) (hl : news.length = size) (hone : ∀ u ∈ news, u.oneCell' = true)
    (hn1 : n + 1 ≤ maxLen) (hn : (n + 1) * bytes ≤ 140737488355328) (hbase : base ≤ w.heap.size)
    (h : ∀ v' w', w'.ownsRow base e size v' (n + 1) (xs ++ news) → w.grownBy w' v.ownBlock → (v'.ownBlock = v.ownBlock ∨ v'.ownBlock = some w.heap.size) → K (a.put o.dst v') w') : o.wp Try.prog a w K Z := by
  obtain ⟨iV, hiV, hzV, hsV, hbV⟩ := info_parts hi
  have hnews : ∀ j u, news[j]? = some u → w.cell? ((⟨g1, 0, none⟩ : Addr).add j) = some u := fun j u hj => by
    rw [Ro.add, Nat.zero_add]
    exact hg1 j u hj
  obtain ⟨v', w', hr, h2, h3, h4⟩ := run_append_own (P := Try.prog) w base t o.type e iV _ size bytes ht hiV hzV hsV hbV hzs hsz v n xs hown ⟨g1, 0, none⟩ 1 1 news (by omega) hnews hone hn1 hn hbase
  have hf := Ro.fresh (P := Try.prog) base t o.type e iV _ size bytes ht hiV hzV hsV hbV hsz v n xs hown ⟨g1, 0, none⟩ 1 1 (by decide) news (by omega) hnews hone hn1 hn v' w' hr
  unfold Oper.wp execOp
  simp only [ho, resolve, invoke, builtin, Sem.run_bind, Sem.run_pure, Result.andThen_ok, List.map_toArray, List.map_cons, List.map_nil, hs, hx, hr]
  exact h v' w' h2 h3 hf
/-- at a step of a region that draws -/
theorem Ro.step_push {w : World} {ops : Array Oper} {o : Oper} {a : Act} {K : Act → World → Prop} {E : Prop} {Z : Exit → Act → World → Prop} (hgd : o.guard = none) (s x : Operand) (t e : TypeId) (size bytes : Nat) (z : Value)
    (ho : o.op = .call { callee := .builtin .append, args := #[s, x], argTypes := #[t, t] })
    (ht : Try.prog.underlying t = some (.slice e)) (hi : (Try.prog.info? e).map (fun i => (i.zero, i.size, i.bytes)) = some (some z, size, bytes)) (hzs : z.cells.size = size) (hsz : 0 < size)
    {base n : Nat} {xs : List Value} (v : Value) (hs : a.eval s = v) (hown : w.ownsRow base e size v n xs) (g1 : Nat) (news : List Value)
    (hx : a.eval x = .slice (some ⟨g1, 0, none⟩) 1 1) (hg1 : ∀ j u, news[j]? = some u → w.cell? ⟨g1, j, none⟩ = some u) (hl : news.length = size) (hone : ∀ u ∈ news, u.oneCell' = true)
    (hn1 : n + 1 ≤ maxLen) (hn : (n + 1) * bytes ≤ 140737488355328) (hbase : base ≤ w.heap.size)
    (h : ∀ v' w', w'.ownsRow base e size v' (n + 1) (xs ++ news) → w.grownBy w' v.ownBlock → (v'.ownBlock = v.ownBlock ∨ v'.ownBlock = some w.heap.size) → K (a.put o.dst v') w') :
    if Region.wanted o (yielded ops a.tmps) = true then Oper.wp Try.prog o a w K Z else E := by
  have hw : Region.wanted o (yielded ops a.tmps) = true := by simp [Region.wanted, hgd]
  rw [if_pos hw]
  exact Ro.wp_push s x t e size bytes z ho ht hi hzs hsz v hs hown g1 news hx hg1 hl hone hn1 hn hbase h
/-- at a list of operations -/
theorem Ro.push {w : World} {ops : Array Oper} {rest : List Oper} {o : Oper} {a : Act} {Z : Exit → Act → World → Prop} (hgd : o.guard = none) (s x : Operand) (t e : TypeId) (size bytes : Nat) (z : Value)
    (ho : o.op = .call { callee := .builtin .append, args := #[s, x], argTypes := #[t, t] })
    (ht : Try.prog.underlying t = some (.slice e)) (hi : (Try.prog.info? e).map (fun i => (i.zero, i.size, i.bytes)) = some (some z, size, bytes)) (hzs : z.cells.size = size) (hsz : 0 < size)
    {base n : Nat} {xs : List Value} (v : Value) (hs : a.eval s = v) (hown : w.ownsRow base e size v n xs) (g1 : Nat) (news : List Value)
    (hx : a.eval x = .slice (some ⟨g1, 0, none⟩) 1 1) (hg1 : ∀ j u, news[j]? = some u → w.cell? ⟨g1, j, none⟩ = some u) (hl : news.length = size) (hone : ∀ u ∈ news, u.oneCell' = true)
    (hn1 : n + 1 ≤ maxLen) (hn : (n + 1) * bytes ≤ 140737488355328) (hbase : base ≤ w.heap.size)
    (h : ∀ v' w', w'.ownsRow base e size v' (n + 1) (xs ++ news) → w.grownBy w' v.ownBlock → (v'.ownBlock = v.ownBlock ∨ v'.ownBlock = some w.heap.size) → wpList Try.prog ops Z rest (a.put o.dst v') w') : wpList Try.prog ops Z (o :: rest) a w :=
  wpList_plain hgd fun _ hK => Ro.wp_push s x t e size bytes z ho ht hi hzs hsz v hs hown g1 news hx hg1 hl hone hn1 hn hbase fun v' w' h2 h3 h4 => hK _ _ (h v' w' h2 h3 h4)

theorem Rm.infoT : (Try.prog.info? 41).map (fun i => (i.zero, i.size, i.bytes)) = some (some (.agg #[.int .i64 0, .string ⟨#[]⟩, .string ⟨#[]⟩, .slice none 0 0, .bool false]), 5, 72) := by kernel_rfl
theorem Rm.infoA : (Try.prog.info? 48).map (fun i => (i.zero, i.size, i.bytes)) = some (some (.agg #[.string ⟨#[]⟩, .string ⟨#[]⟩]), 2, 32) := by kernel_rfl

/-- attributes in a row -/
def Ak.cells (al : List (ByteArray × ByteArray)) : List Value := al.flatMap fun a => [.string a.1, .string a.2]
theorem Ak.cells_length (al : List (ByteArray × ByteArray)) : (Ak.cells al).length = al.length * 2 := by
  induction al with
  | nil => rfl
  | cons a al ih => simp only [Ak.cells, List.flatMap_cons, List.length_append] at *; simp only [List.length_cons, List.length_nil]; omega
theorem Ak.cells_append (a b : List (ByteArray × ByteArray)) : Ak.cells (a ++ b) = Ak.cells a ++ Ak.cells b := by simp [Ak.cells]
theorem Ak.cells_one (al : List (ByteArray × ByteArray)) : ∀ u ∈ Ak.cells al, u.oneCell' = true := by
  intro u hu
  simp only [Ak.cells, List.mem_flatMap, List.mem_cons, List.not_mem_nil, or_false] at hu
  obtain ⟨a, _, rfl | rfl⟩ := hu <;> rfl
theorem Ak.cells_get : ∀ (al : List (ByteArray × ByteArray)) (j : Nat) (x : ByteArray × ByteArray), al[j]? = some x → (Ak.cells al)[j * 2]? = some (.string x.1) ∧ (Ak.cells al)[j * 2 + 1]? = some (.string x.2) := by
  intro al
  induction al with
  | nil => intro j x h; simp at h
  | cons a al ih =>
    intro j x h
    cases j with
    | zero =>
      simp only [List.getElem?_cons_zero, Option.some.injEq] at h
      subst h
      exact ⟨rfl, rfl⟩
    | succ j =>
      rw [List.getElem?_cons_succ] at h
      obtain ⟨h1, h2⟩ := ih j x h
      have e : Ak.cells (a :: al) = .string a.1 :: .string a.2 :: Ak.cells al := rfl
      rw [e, show (j + 1) * 2 = j * 2 + 1 + 1 by omega]
      exact ⟨h1, h2⟩
/-- none of a block's cells is frozen -/
def Rm.Ub (w : World) (k : Nat) : Prop := ∀ o, w.frozen? ⟨k, o, none⟩ = false
theorem Rm.Ub.on {w w' : World} {k : Nat} (h : Rm.Ub w k) (hw : w'.heap[k]? = w.heap[k]?) : Rm.Ub w' k := fun o => by
  have := h o
  unfold World.frozen? at this ⊢
  rw [hw]
  exact this
theorem Rm.Ub.own {w : World} {base : Nat} {e : TypeId} {size n : Nat} {v : Value} {xs : List Value} (h : w.ownsRow base e size v n xs) {k : Nat} (hk : v.ownBlock = some k) : Rm.Ub w k := by
  rcases h.2 with ⟨rfl, hn⟩ | ⟨g, cap, cur, rfl, hbg, hg, rest⟩
  · cases hk
  · have : g = k := Option.some.inj hk
    subst this
    intro o
    unfold World.frozen?
    rw [hg]
    simp
/-- the attributes lie in a block of R -/
def Ak.Lies (w : World) (R : Nat → Prop) (al : List (ByteArray × ByteArray)) (v : Value) : Prop :=
  ∃ a d, v = .slice a al.length d ∧ al.length ≤ d ∧ d ≤ maxLen ∧ ∀ j x, al[j]? = some x → ∃ b o, a = some ⟨b, o, none⟩ ∧ R b ∧ w.cell? ⟨b, o + j * 2, none⟩ = some (.string x.1) ∧ w.cell? ⟨b, o + j * 2 + 1, none⟩ = some (.string x.2)
theorem Ak.Lies.on {w w' : World} {R R' : Nat → Prop} {al : List (ByteArray × ByteArray)} {v : Value} (h : Ak.Lies w R al v) (hR : ∀ k, R k → R' k ∧ w'.heap[k]? = w.heap[k]?) : Ak.Lies w' R' al v := by
  obtain ⟨a, d, e, h1, h2, hx⟩ := h
  refine ⟨a, d, e, h1, h2, fun j x hj => ?_⟩
  obtain ⟨b, o, ea, hb, c1, c2⟩ := hx j x hj
  obtain ⟨hb', hw⟩ := hR b hb
  exact ⟨b, o, ea, hb', (World.cell?_of_block (a := ⟨b, o + j * 2, none⟩) hw).trans c1, (World.cell?_of_block (a := ⟨b, o + j * 2 + 1, none⟩) hw).trans c2⟩
theorem Ak.Lies.nil (w : World) (R : Nat → Prop) : Ak.Lies w R [] (.slice none 0 0) := ⟨none, 0, rfl, Nat.le_refl _, Nat.zero_le _, fun j x h => by simp at h⟩
theorem Ak.Lies.own {w : World} {base : Nat} {al : List (ByteArray × ByteArray)} {v : Value} (h : w.ownsRow base 48 2 v al.length (Ak.cells al)) : Ak.Lies w (fun k => v.ownBlock = some k) al v := by
  have hc := fun g hg => h.cells (g := g) hg
  rcases h.2 with ⟨rfl, hn⟩ | ⟨g, cap, cur, rfl, hbg, hg, hnc, hcm, hcs, htake⟩
  · have : al = [] := List.eq_nil_of_length_eq_zero hn
    subst this
    exact Ak.Lies.nil _ _
  · refine ⟨some ⟨g, 0, none⟩, cap, rfl, hnc, hcm, fun j x hj => ?_⟩
    obtain ⟨h1, h2⟩ := Ak.cells_get al j x hj
    have c1 := hc g rfl _ _ h1
    have c2 := hc g rfl _ _ h2
    rw [Ro.add] at c1 c2
    exact ⟨g, 0, rfl, rfl, c1, by rw [show 0 + j * 2 + 1 = 0 + (j * 2 + 1) by omega]; exact c2⟩
/-- tokens lie in blocks of R -/
def Tk.Lies (w : World) (R : Nat → Prop) (ts : List Tk) (v : Value) : Prop :=
  ∃ a d, v = .slice a ts.length d ∧ ts.length ≤ d ∧ d ≤ maxLen ∧ ∀ i t, ts[i]? = some t → ∃ b o av, a = some ⟨b, o, none⟩ ∧ R b ∧ w.cell? ⟨b, o + i * 5, none⟩ = some (.int .i64 t.kind) ∧ w.cell? ⟨b, o + i * 5 + 1, none⟩ = some (.string t.name) ∧ w.cell? ⟨b, o + i * 5 + 2, none⟩ = some (.string t.text) ∧ w.cell? ⟨b, o + i * 5 + 3, none⟩ = some av ∧ w.cell? ⟨b, o + i * 5 + 4, none⟩ = some (.bool t.self) ∧ Ak.Lies w R t.attrs av
theorem Tk.Lies.on {w w' : World} {R R' : Nat → Prop} {ts : List Tk} {v : Value} (h : Tk.Lies w R ts v) (hR : ∀ k, R k → R' k ∧ w'.heap[k]? = w.heap[k]?) : Tk.Lies w' R' ts v := by
  obtain ⟨a, d, e, h1, h2, hx⟩ := h
  refine ⟨a, d, e, h1, h2, fun i t hi => ?_⟩
  obtain ⟨b, o, av, ea, hb, c0, c1, c2, c3, c4, hl⟩ := hx i t hi
  obtain ⟨hb', hw⟩ := hR b hb
  exact ⟨b, o, av, ea, hb', (World.cell?_of_block (a := ⟨b, o + i * 5, none⟩) hw).trans c0, (World.cell?_of_block (a := ⟨b, o + i * 5 + 1, none⟩) hw).trans c1, (World.cell?_of_block (a := ⟨b, o + i * 5 + 2, none⟩) hw).trans c2, (World.cell?_of_block (a := ⟨b, o + i * 5 + 3, none⟩) hw).trans c3, (World.cell?_of_block (a := ⟨b, o + i * 5 + 4, none⟩) hw).trans c4, hl.on hR⟩
/-- tokens in a row that grows; what their attributes lie in is none of the row's block nor of block 'no' -/
def Rm.Toks (base : Nat) (ts : List Tk) (w : World) (v : Value) (no : Option Nat) : Prop :=
  ∃ xs, w.ownsRow base 41 5 v ts.length xs ∧ ∀ i t, ts[i]? = some t → ∃ av, xs[i * 5]? = some (.int .i64 t.kind) ∧ xs[i * 5 + 1]? = some (.string t.name) ∧ xs[i * 5 + 2]? = some (.string t.text) ∧ xs[i * 5 + 3]? = some av ∧ xs[i * 5 + 4]? = some (.bool t.self) ∧ Ak.Lies w (fun k => base ≤ k ∧ k < w.heap.size ∧ v.ownBlock ≠ some k ∧ no ≠ some k ∧ Rm.Ub w k) t.attrs av
theorem Rm.lies0 {base : Nat} {ts : List Tk} {w : World} {v : Value} {X : Nat → Prop} (h : ∃ xs, w.ownsRow base 41 5 v ts.length xs ∧ ∀ i t, ts[i]? = some t → ∃ av, xs[i * 5]? = some (.int .i64 t.kind) ∧ xs[i * 5 + 1]? = some (.string t.name) ∧ xs[i * 5 + 2]? = some (.string t.text) ∧ xs[i * 5 + 3]? = some av ∧ xs[i * 5 + 4]? = some (.bool t.self) ∧ Ak.Lies w (fun k => base ≤ k ∧ k < w.heap.size ∧ X k) t.attrs av) (hX : ∀ k, v.ownBlock = some k → X k) : Tk.Lies w (fun k => base ≤ k ∧ k < w.heap.size ∧ X k) ts v := by
  obtain ⟨xs, ho, hx⟩ := h
  have hc := fun g hg => ho.cells (g := g) hg
  have hlt := ho.lt
  rcases ho.2 with ⟨rfl, hn⟩ | ⟨g, cap, cur, rfl, hbg, hg, hnc, hcm, hcs, htake⟩
  · have : ts = [] := List.eq_nil_of_length_eq_zero hn
    subst this
    exact ⟨none, 0, rfl, Nat.le_refl _, Nat.zero_le _, fun j x h => by simp at h⟩
  · refine ⟨some ⟨g, 0, none⟩, cap, rfl, hnc, hcm, fun i t hi => ?_⟩
    obtain ⟨av, x0, x1, x2, x3, x4, hl⟩ := hx i t hi
    have c0 := hc g rfl _ _ x0
    have c1 := hc g rfl _ _ x1
    have c2 := hc g rfl _ _ x2
    have c3 := hc g rfl _ _ x3
    have c4 := hc g rfl _ _ x4
    rw [Ro.add] at c0 c1 c2 c3 c4
    exact ⟨g, 0, av, rfl, ⟨(hlt g rfl).1, (hlt g rfl).2, hX g rfl⟩, c0, by rw [Nat.add_assoc]; exact c1, by rw [Nat.add_assoc]; exact c2, by rw [Nat.add_assoc]; exact c3, by rw [Nat.add_assoc]; exact c4, hl⟩
theorem Rm.Toks.liesU {base : Nat} {ts : List Tk} {w : World} {v : Value} {no : Option Nat} (h : Rm.Toks base ts w v no) : Tk.Lies w (fun k => base ≤ k ∧ k < w.heap.size ∧ Rm.Ub w k) ts v := by
  obtain ⟨xs, ho, hx⟩ := h
  refine Rm.lies0 ⟨xs, ho, fun i t hi => ?_⟩ (fun k hk => Rm.Ub.own ho hk)
  obtain ⟨av, x0, x1, x2, x3, x4, hl⟩ := hx i t hi
  exact ⟨av, x0, x1, x2, x3, x4, hl.on fun _ hk => ⟨⟨hk.1, hk.2.1, hk.2.2.2.2⟩, rfl⟩⟩
theorem Rm.Toks.lies {base : Nat} {ts : List Tk} {w : World} {v : Value} {no : Option Nat} (h : Rm.Toks base ts w v no) : Tk.Lies w (fun k => base ≤ k ∧ k < w.heap.size) ts v := h.liesU.on fun _ hk => ⟨⟨hk.1, hk.2.1⟩, rfl⟩
theorem Rm.Toks.on {base : Nat} {ts : List Tk} {w w' : World} {v : Value} {no no' : Option Nat} (h : Rm.Toks base ts w v no) (hs : w.heap.size ≤ w'.heap.size) (hb : ∀ k, v.ownBlock = some k → w'.heap[k]? = w.heap[k]?) (hw : ∀ k, base ≤ k → k < w.heap.size → v.ownBlock ≠ some k → no ≠ some k → no' ≠ some k ∧ w'.heap[k]? = w.heap[k]?) : Rm.Toks base ts w' v no' := by
  obtain ⟨xs, ho, hx⟩ := h
  refine ⟨xs, ⟨ho.1, ?_⟩, fun i t hi => ?_⟩
  · rcases ho.2 with hn | ⟨g, cap, cur, rfl, hbg, hg, rest⟩
    · exact .inl hn
    · exact .inr ⟨g, cap, cur, rfl, hbg, (hb g rfl).trans hg, rest⟩
  · obtain ⟨av, x0, x1, x2, x3, x4, hl⟩ := hx i t hi
    refine ⟨av, x0, x1, x2, x3, x4, hl.on fun k hk => ?_⟩
    obtain ⟨h1, h2⟩ := hw k hk.1 hk.2.1 hk.2.2.1 hk.2.2.2.1
    exact ⟨⟨hk.1, Nat.lt_of_lt_of_le hk.2.1 hs, hk.2.2.1, h1, hk.2.2.2.2.on h2⟩, h2⟩
theorem Rm.own_on {base : Nat} {w w' : World} {e : TypeId} {size n : Nat} {v : Value} {xs : List Value} (h : w.ownsRow base e size v n xs) (hb : ∀ k, v.ownBlock = some k → w'.heap[k]? = w.heap[k]?) : w'.ownsRow base e size v n xs := by
  refine ⟨h.1, ?_⟩
  rcases h.2 with hn | ⟨g, cap, cur, rfl, hbg, hg, rest⟩
  · exact .inl hn
  · exact .inr ⟨g, cap, cur, rfl, hbg, (hb g rfl).trans hg, rest⟩
end Go.Proofs.Ythfobjkdcncoiaa

/-
  TOKENS AND ATTRIBUTES IN MEMORY; the reader's own block.
-/
import Derived.Test.YtblpkjlodncpeaaGreatDoorBTRowDtoTStep3
import Derived.Laws.AppendOwn
import Derived.Laws.OwnMore
import Derived.Deep.RegionLaw
import Derived.Test.YtblpkjlodncpeaaGreatDoorBPlaintoKPlain
import Derived.Test.YtblpkjlodncpeaaGreatDoorBTKittoLower
import Derived.Deep.CutRange
namespace Go.Proofs.YtblpkjlodncpeaaGreatDoor
open Go.RowKit
theorem Ro.add (b o j : Nat) : (⟨b, o, none⟩ : Addr).add j = ⟨b, o + j, none⟩ := by unfold Addr.add; split <;> simp_all
theorem Ro.fresh {P : Program} {w : World} (base : Nat) (t ty e : TypeId) (i : TypeInfo) (z : Value) (size bytes : Nat) (ht : P.underlying t = some (.slice e)) (hi : P.info? e = some i) (hz : i.zero = some z)
  (hsize : i.size = size) (hby : i.bytes = bytes) (hsz : 0 < size)
  (v : Value) (n : Nat) (xs : List Value) (hown : w.ownsRow base e size v n xs)
  (a : Addr) (m c : Nat) (hm : 0 < m) (news : List Value) (hl : news.length = m * size) (hnews : ∀ j u, news[j]? = some u → w.cell? (a.add j) = some u) (h1 : ∀ u ∈ news, u.oneCell' = true)
  (h63 : n + m ≤ maxLen) (hbytes : (n + m) * bytes ≤ 140737488355328) (v' : Value) (w' : World) (hrun : (Builtin.append_ #[t, t] ty #[v, .slice (some a) m c]).run P w = .ok v' w') :
  v'.ownBlock = v.ownBlock ∨ v'.ownBlock = some w.heap.size := by
 subst hsize
 subst hby
 have hsmall : n + m ≤ 9223372036854775807 := by simp only [maxLen] at h63; omega
 rcases hown.2 with ⟨rfl, rfl⟩ | ⟨g, cap, cur, rfl, hbg, hg, hnc, hcm, hcs, htake⟩
 ·
  have hr := run_append_nil (P := P) w t ty e i z ht hi hz a m c news hl hnews (by omega) (by omega) (by have hb := hbytes; simp only [Nat.zero_add] at hb; omega)
  rw [hr] at hrun
  injection hrun with e1 e2
  subst e1
  exact .inr rfl
 ·
  by_cases hroom : n + m ≤ cap
  ·
   have hfit : n * i.size + news.length ≤ cur.size := by rw [hl, hcs, ← Nat.add_mul]; exact Nat.mul_le_mul_right _ hroom
   have hr := run_append_room (P := P) w t ty e i ht hi g n cap cur hg a m c news hl hnews h1 hroom hfit
   rw [hr] at hrun
   injection hrun with e1 e2
   subst e1
   exact .inl rfl
  ·
   have holds : ∀ j u, xs[j]? = some u → w.cell? ((⟨g, 0, none⟩ : Addr).add j) = some u := hown.cells (g := g) rfl
   have hr := run_append_grow (P := P) w t ty e i z ht hi hz ⟨g, 0, none⟩ n cap xs hown.1 holds a m c news hl hnews (by omega) (by omega) (growslice_fits (by omega) hbytes)
   rw [hr] at hrun
   injection hrun with e1 e2
   subst e1
   exact .inr rfl
theorem Ro.wp_push {w : World} {o : Oper} {a : Act} {K : Act → World → Prop} {Z : Exit → Act → World → Prop} (s x : Operand) (t e : TypeId) (size bytes : Nat) (z : Value)
  (ho : o.op = .call { callee := .builtin .append, args := #[s, x], argTypes := #[t, t] })
  (ht : Tryz.prog.underlying t = some (.slice e)) (hi : (Tryz.prog.info? e).map (fun i => (i.zero, i.size, i.bytes)) = some (some z, size, bytes)) (hzs : z.cells.size = size) (hsz : 0 < size)
  {base n : Nat} {xs : List Value} (v : Value) (hs : a.eval s = v) (hown : w.ownsRow base e size v n xs) (g1 : Nat) (news : List Value)
  (hx : a.eval x = .slice (some ⟨g1, 0, none⟩) 1 1) (hg1 : ∀ j u, news[j]? = some u → w.cell? ⟨g1, j, none⟩ = some u) (hl : news.length = size) (hone : ∀ u ∈ news, u.oneCell' = true)
  (hn1 : n + 1 ≤ maxLen) (hn : (n + 1) * bytes ≤ 140737488355328) (hbase : base ≤ w.heap.size)
  (h : ∀ v' w', w'.ownsRow base e size v' (n + 1) (xs ++ news) → w.grownBy w' v.ownBlock → (v'.ownBlock = v.ownBlock ∨ v'.ownBlock = some w.heap.size) → K (a.put o.dst v') w') : o.wp Tryz.prog a w K Z := by
 obtain ⟨iV, hiV, hzV, hsV, hbV⟩ := info_parts hi
 have hnews : ∀ j u, news[j]? = some u → w.cell? ((⟨g1, 0, none⟩ : Addr).add j) = some u := fun j u hj => by
  rw [Ro.add, Nat.zero_add]
  exact hg1 j u hj
 obtain ⟨v', w', hr, h2, h3, h4⟩ := run_append_own (P := Tryz.prog) w base t o.type e iV _ size bytes ht hiV hzV hsV hbV hzs hsz v n xs hown ⟨g1, 0, none⟩ 1 1 news (by omega) hnews hone hn1 hn hbase
 have hf := Ro.fresh (P := Tryz.prog) base t o.type e iV _ size bytes ht hiV hzV hsV hbV hsz v n xs hown ⟨g1, 0, none⟩ 1 1 (by decide) news (by omega) hnews hone hn1 hn v' w' hr
 unfold Oper.wp execOp
 simp only [ho, resolve, invoke, builtin, Sem.run_bind, Sem.run_pure, Result.andThen_ok, List.map_toArray, List.map_cons, List.map_nil, hs, hx, hr]
 exact h v' w' h2 h3 hf
theorem Ro.step_push {w : World} {ops : Array Oper} {o : Oper} {a : Act} {K : Act → World → Prop} {E : Prop} {Z : Exit → Act → World → Prop} (hgd : o.guard = none) (s x : Operand) (t e : TypeId) (size bytes : Nat) (z : Value)
  (ho : o.op = .call { callee := .builtin .append, args := #[s, x], argTypes := #[t, t] })
  (ht : Tryz.prog.underlying t = some (.slice e)) (hi : (Tryz.prog.info? e).map (fun i => (i.zero, i.size, i.bytes)) = some (some z, size, bytes)) (hzs : z.cells.size = size) (hsz : 0 < size)
  {base n : Nat} {xs : List Value} (v : Value) (hs : a.eval s = v) (hown : w.ownsRow base e size v n xs) (g1 : Nat) (news : List Value)
  (hx : a.eval x = .slice (some ⟨g1, 0, none⟩) 1 1) (hg1 : ∀ j u, news[j]? = some u → w.cell? ⟨g1, j, none⟩ = some u) (hl : news.length = size) (hone : ∀ u ∈ news, u.oneCell' = true)
  (hn1 : n + 1 ≤ maxLen) (hn : (n + 1) * bytes ≤ 140737488355328) (hbase : base ≤ w.heap.size)
  (h : ∀ v' w', w'.ownsRow base e size v' (n + 1) (xs ++ news) → w.grownBy w' v.ownBlock → (v'.ownBlock = v.ownBlock ∨ v'.ownBlock = some w.heap.size) → K (a.put o.dst v') w') :
  if Region.wanted o (yielded ops a.tmps) = true then Oper.wp Tryz.prog o a w K Z else E := by
 have hw : Region.wanted o (yielded ops a.tmps) = true := by simp [Region.wanted, hgd]
 rw [if_pos hw]
 exact Ro.wp_push s x t e size bytes z ho ht hi hzs hsz v hs hown g1 news hx hg1 hl hone hn1 hn hbase h
theorem Ro.push {w : World} {ops : Array Oper} {rest : List Oper} {o : Oper} {a : Act} {Z : Exit → Act → World → Prop} (hgd : o.guard = none) (s x : Operand) (t e : TypeId) (size bytes : Nat) (z : Value)
  (ho : o.op = .call { callee := .builtin .append, args := #[s, x], argTypes := #[t, t] })
  (ht : Tryz.prog.underlying t = some (.slice e)) (hi : (Tryz.prog.info? e).map (fun i => (i.zero, i.size, i.bytes)) = some (some z, size, bytes)) (hzs : z.cells.size = size) (hsz : 0 < size)
  {base n : Nat} {xs : List Value} (v : Value) (hs : a.eval s = v) (hown : w.ownsRow base e size v n xs) (g1 : Nat) (news : List Value)
  (hx : a.eval x = .slice (some ⟨g1, 0, none⟩) 1 1) (hg1 : ∀ j u, news[j]? = some u → w.cell? ⟨g1, j, none⟩ = some u) (hl : news.length = size) (hone : ∀ u ∈ news, u.oneCell' = true)
  (hn1 : n + 1 ≤ maxLen) (hn : (n + 1) * bytes ≤ 140737488355328) (hbase : base ≤ w.heap.size)
  (h : ∀ v' w', w'.ownsRow base e size v' (n + 1) (xs ++ news) → w.grownBy w' v.ownBlock → (v'.ownBlock = v.ownBlock ∨ v'.ownBlock = some w.heap.size) → wpList Tryz.prog ops Z rest (a.put o.dst v') w') : wpList Tryz.prog ops Z (o :: rest) a w :=
 wpList_plain hgd fun _ hK => Ro.wp_push s x t e size bytes z ho ht hi hzs hsz v hs hown g1 news hx hg1 hl hone hn1 hn hbase fun v' w' h2 h3 h4 => hK _ _ (h v' w' h2 h3 h4)
theorem Rm.infoT : (Tryz.prog.info? 84).map (fun i => (i.zero, i.size, i.bytes)) = some (some (.agg #[.int .i64 0, .string ⟨#[]⟩, .string ⟨#[]⟩, .slice none 0 0, .bool false]), 5, 72) := by kernel_rfl
theorem Rm.infoA : (Tryz.prog.info? 50).map (fun i => (i.zero, i.size, i.bytes)) = some (some (.agg #[.string ⟨#[]⟩, .string ⟨#[]⟩]), 2, 32) := by kernel_rfl
def Ak.cells (al : List (ByteArray × ByteArray)) : List Value := al.flatMap fun a => [.string a.1, .string a.2]
theorem Ak.cells_length (al : List (ByteArray × ByteArray)) : (Ak.cells al).length = al.length * 2 := by
 induction al with
 | nil => rfl
 | cons a al ih => simp only [Ak.cells, List.flatMap_cons, List.length_append] at *; simp only [List.length_cons, List.length_nil]; omega
theorem Ak.cells_append (a b : List (ByteArray × ByteArray)) : Ak.cells (a ++ b) = Ak.cells a ++ Ak.cells b := by simp [Ak.cells]
theorem Ak.cells_one (al : List (ByteArray × ByteArray)) : ∀ u ∈ Ak.cells al, u.oneCell' = true := by
 intro u hu
 simp only [Ak.cells, List.mem_flatMap, List.mem_cons, List.not_mem_nil, or_false] at hu
 obtain ⟨a, _, rfl | rfl⟩ := hu <;> rfl
theorem Ak.cells_get : ∀ (al : List (ByteArray × ByteArray)) (j : Nat) (x : ByteArray × ByteArray), al[j]? = some x → (Ak.cells al)[j * 2]? = some (.string x.1) ∧ (Ak.cells al)[j * 2 + 1]? = some (.string x.2) := by
 intro al
 induction al with
 | nil => intro j x h; simp at h
 | cons a al ih =>
  intro j x h
  cases j with
  | zero =>
   simp only [List.getElem?_cons_zero, Option.some.injEq] at h
   subst h
   exact ⟨rfl, rfl⟩
  | succ j =>
   rw [List.getElem?_cons_succ] at h
   obtain ⟨h1, h2⟩ := ih j x h
   have e : Ak.cells (a :: al) = .string a.1 :: .string a.2 :: Ak.cells al := rfl
   rw [e, show (j + 1) * 2 = j * 2 + 1 + 1 by omega]
   exact ⟨h1, h2⟩
def Rm.Ub (w : World) (k : Nat) : Prop := ∀ o, w.frozen? ⟨k, o, none⟩ = false
theorem Rm.Ub.on {w w' : World} {k : Nat} (h : Rm.Ub w k) (hw : w'.heap[k]? = w.heap[k]?) : Rm.Ub w' k := fun o => by
 have := h o
 unfold World.frozen? at this ⊢
 rw [hw]
 exact this
theorem Rm.Ub.own {w : World} {base : Nat} {e : TypeId} {size n : Nat} {v : Value} {xs : List Value} (h : w.ownsRow base e size v n xs) {k : Nat} (hk : v.ownBlock = some k) : Rm.Ub w k := by
 rcases h.2 with ⟨rfl, hn⟩ | ⟨g, cap, cur, rfl, hbg, hg, rest⟩
 ·
  cases hk
 ·
  have : g = k := Option.some.inj hk
  subst this
  intro o
  unfold World.frozen?
  rw [hg]
  simp
def Ak.Lies (w : World) (R : Nat → Prop) (al : List (ByteArray × ByteArray)) (v : Value) : Prop :=
 ∃ a d, v = .slice a al.length d ∧ al.length ≤ d ∧ d ≤ maxLen ∧ ∀ j x, al[j]? = some x → ∃ b o, a = some ⟨b, o, none⟩ ∧ R b ∧ w.cell? ⟨b, o + j * 2, none⟩ = some (.string x.1) ∧ w.cell? ⟨b, o + j * 2 + 1, none⟩ = some (.string x.2)
theorem Ak.Lies.on {w w' : World} {R R' : Nat → Prop} {al : List (ByteArray × ByteArray)} {v : Value} (h : Ak.Lies w R al v) (hR : ∀ k, R k → R' k ∧ w'.heap[k]? = w.heap[k]?) : Ak.Lies w' R' al v := by
 obtain ⟨a, d, e, h1, h2, hx⟩ := h
 refine ⟨a, d, e, h1, h2, fun j x hj => ?_⟩
 obtain ⟨b, o, ea, hb, c1, c2⟩ := hx j x hj
 obtain ⟨hb', hw⟩ := hR b hb
 exact ⟨b, o, ea, hb', (World.cell?_of_block (a := ⟨b, o + j * 2, none⟩) hw).trans c1, (World.cell?_of_block (a := ⟨b, o + j * 2 + 1, none⟩) hw).trans c2⟩
theorem Ak.Lies.nil (w : World) (R : Nat → Prop) : Ak.Lies w R [] (.slice none 0 0) := ⟨none, 0, rfl, Nat.le_refl _, Nat.zero_le _, fun j x h => by simp at h⟩
theorem Ak.Lies.own {w : World} {base : Nat} {al : List (ByteArray × ByteArray)} {v : Value} (h : w.ownsRow base 50 2 v al.length (Ak.cells al)) : Ak.Lies w (fun k => v.ownBlock = some k) al v := by
 have hc := fun g hg => h.cells (g := g) hg
 rcases h.2 with ⟨rfl, hn⟩ | ⟨g, cap, cur, rfl, hbg, hg, hnc, hcm, hcs, htake⟩
 ·
  have : al = [] := List.eq_nil_of_length_eq_zero hn
  subst this
  exact Ak.Lies.nil _ _
 ·
  refine ⟨some ⟨g, 0, none⟩, cap, rfl, hnc, hcm, fun j x hj => ?_⟩
  obtain ⟨h1, h2⟩ := Ak.cells_get al j x hj
  have c1 := hc g rfl _ _ h1
  have c2 := hc g rfl _ _ h2
  rw [Ro.add] at c1 c2
  exact ⟨g, 0, rfl, rfl, c1, by rw [show 0 + j * 2 + 1 = 0 + (j * 2 + 1) by omega]; exact c2⟩
def Tk.Lies (w : World) (R : Nat → Prop) (ts : List Tk) (v : Value) : Prop :=
 ∃ a d, v = .slice a ts.length d ∧ ts.length ≤ d ∧ d ≤ maxLen ∧ ∀ i t, ts[i]? = some t → ∃ b o av, a = some ⟨b, o, none⟩ ∧ R b ∧ w.cell? ⟨b, o + i * 5, none⟩ = some (.int .i64 t.kind) ∧ w.cell? ⟨b, o + i * 5 + 1, none⟩ = some (.string t.name) ∧ w.cell? ⟨b, o + i * 5 + 2, none⟩ = some (.string t.text) ∧ w.cell? ⟨b, o + i * 5 + 3, none⟩ = some av ∧ w.cell? ⟨b, o + i * 5 + 4, none⟩ = some (.bool t.self) ∧ Ak.Lies w R t.attrs av
theorem Tk.Lies.on {w w' : World} {R R' : Nat → Prop} {ts : List Tk} {v : Value} (h : Tk.Lies w R ts v) (hR : ∀ k, R k → R' k ∧ w'.heap[k]? = w.heap[k]?) : Tk.Lies w' R' ts v := by
 obtain ⟨a, d, e, h1, h2, hx⟩ := h
 refine ⟨a, d, e, h1, h2, fun i t hi => ?_⟩
 obtain ⟨b, o, av, ea, hb, c0, c1, c2, c3, c4, hl⟩ := hx i t hi
 obtain ⟨hb', hw⟩ := hR b hb
 exact ⟨b, o, av, ea, hb', (World.cell?_of_block (a := ⟨b, o + i * 5, none⟩) hw).trans c0, (World.cell?_of_block (a := ⟨b, o + i * 5 + 1, none⟩) hw).trans c1, (World.cell?_of_block (a := ⟨b, o + i * 5 + 2, none⟩) hw).trans c2, (World.cell?_of_block (a := ⟨b, o + i * 5 + 3, none⟩) hw).trans c3, (World.cell?_of_block (a := ⟨b, o + i * 5 + 4, none⟩) hw).trans c4, hl.on hR⟩
def Rm.Toks (base : Nat) (ts : List Tk) (w : World) (v : Value) (no : Option Nat) : Prop :=
 ∃ xs, w.ownsRow base 84 5 v ts.length xs ∧ ∀ i t, ts[i]? = some t → ∃ av, xs[i * 5]? = some (.int .i64 t.kind) ∧ xs[i * 5 + 1]? = some (.string t.name) ∧ xs[i * 5 + 2]? = some (.string t.text) ∧ xs[i * 5 + 3]? = some av ∧ xs[i * 5 + 4]? = some (.bool t.self) ∧ Ak.Lies w (fun k => base ≤ k ∧ k < w.heap.size ∧ v.ownBlock ≠ some k ∧ no ≠ some k ∧ Rm.Ub w k) t.attrs av
theorem Rm.lies0 {base : Nat} {ts : List Tk} {w : World} {v : Value} {X : Nat → Prop} (h : ∃ xs, w.ownsRow base 84 5 v ts.length xs ∧ ∀ i t, ts[i]? = some t → ∃ av, xs[i * 5]? = some (.int .i64 t.kind) ∧ xs[i * 5 + 1]? = some (.string t.name) ∧ xs[i * 5 + 2]? = some (.string t.text) ∧ xs[i * 5 + 3]? = some av ∧ xs[i * 5 + 4]? = some (.bool t.self) ∧ Ak.Lies w (fun k => base ≤ k ∧ k < w.heap.size ∧ X k) t.attrs av) (hX : ∀ k, v.ownBlock = some k → X k) : Tk.Lies w (fun k => base ≤ k ∧ k < w.heap.size ∧ X k) ts v := by
 obtain ⟨xs, ho, hx⟩ := h
 have hc := fun g hg => ho.cells (g := g) hg
 have hlt := ho.lt
 rcases ho.2 with ⟨rfl, hn⟩ | ⟨g, cap, cur, rfl, hbg, hg, hnc, hcm, hcs, htake⟩
 ·
  have : ts = [] := List.eq_nil_of_length_eq_zero hn
  subst this
  exact ⟨none, 0, rfl, Nat.le_refl _, Nat.zero_le _, fun j x h => by simp at h⟩
 ·
  refine ⟨some ⟨g, 0, none⟩, cap, rfl, hnc, hcm, fun i t hi => ?_⟩
  obtain ⟨av, x0, x1, x2, x3, x4, hl⟩ := hx i t hi
  have c0 := hc g rfl _ _ x0
  have c1 := hc g rfl _ _ x1
  have c2 := hc g rfl _ _ x2
  have c3 := hc g rfl _ _ x3
  have c4 := hc g rfl _ _ x4
  rw [Ro.add] at c0 c1 c2 c3 c4
  exact ⟨g, 0, av, rfl, ⟨(hlt g rfl).1, (hlt g rfl).2, hX g rfl⟩, c0, by rw [Nat.add_assoc]; exact c1, by rw [Nat.add_assoc]; exact c2, by rw [Nat.add_assoc]; exact c3, by rw [Nat.add_assoc]; exact c4, hl⟩
theorem Rm.Toks.liesU {base : Nat} {ts : List Tk} {w : World} {v : Value} {no : Option Nat} (h : Rm.Toks base ts w v no) : Tk.Lies w (fun k => base ≤ k ∧ k < w.heap.size ∧ Rm.Ub w k) ts v := by
 obtain ⟨xs, ho, hx⟩ := h
 refine Rm.lies0 ⟨xs, ho, fun i t hi => ?_⟩ (fun k hk => Rm.Ub.own ho hk)
 obtain ⟨av, x0, x1, x2, x3, x4, hl⟩ := hx i t hi
 exact ⟨av, x0, x1, x2, x3, x4, hl.on fun _ hk => ⟨⟨hk.1, hk.2.1, hk.2.2.2.2⟩, rfl⟩⟩
theorem Rm.Toks.on {base : Nat} {ts : List Tk} {w w' : World} {v : Value} {no no' : Option Nat} (h : Rm.Toks base ts w v no) (hs : w.heap.size ≤ w'.heap.size) (hb : ∀ k, v.ownBlock = some k → w'.heap[k]? = w.heap[k]?) (hw : ∀ k, base ≤ k → k < w.heap.size → v.ownBlock ≠ some k → no ≠ some k → no' ≠ some k ∧ w'.heap[k]? = w.heap[k]?) : Rm.Toks base ts w' v no' := by
 obtain ⟨xs, ho, hx⟩ := h
 refine ⟨xs, ⟨ho.1, ?_⟩, fun i t hi => ?_⟩
 ·
  rcases ho.2 with hn | ⟨g, cap, cur, rfl, hbg, hg, rest⟩
  ·
   exact .inl hn
  ·
   exact .inr ⟨g, cap, cur, rfl, hbg, (hb g rfl).trans hg, rest⟩
 ·
  obtain ⟨av, x0, x1, x2, x3, x4, hl⟩ := hx i t hi
  refine ⟨av, x0, x1, x2, x3, x4, hl.on fun k hk => ?_⟩
  obtain ⟨h1, h2⟩ := hw k hk.1 hk.2.1 hk.2.2.1 hk.2.2.2.1
  exact ⟨⟨hk.1, Nat.lt_of_lt_of_le hk.2.1 hs, hk.2.2.1, h1, hk.2.2.2.2.on h2⟩, h2⟩
theorem Rm.own_on {base : Nat} {w w' : World} {e : TypeId} {size n : Nat} {v : Value} {xs : List Value} (h : w.ownsRow base e size v n xs) (hb : ∀ k, v.ownBlock = some k → w'.heap[k]? = w.heap[k]?) : w'.ownsRow base e size v n xs := by
 refine ⟨h.1, ?_⟩
 rcases h.2 with hn | ⟨g, cap, cur, rfl, hbg, hg, rest⟩
 ·
  exact .inl hn
 ·
  exact .inr ⟨g, cap, cur, rfl, hbg, (hb g rfl).trans hg, rest⟩
def Nd.five (x : Nd) (av : Value) : List Value := [.int .i64 x.kind, .string x.name, .string x.text, av, .int .i64 x.parent]
theorem Um.infoN : (Tryz.prog.info? 48).map (fun i => (i.zero, i.size, i.bytes)) = some (some (.agg #[.int .i64 0, .string ⟨#[]⟩, .string ⟨#[]⟩, .slice none 0 0, .int .i64 0]), 5, 72) := by kernel_rfl
theorem Um.infoI : (Tryz.prog.info? 3).map (fun i => (i.zero, i.size, i.bytes)) = some (some (.int .i64 0), 1, 8) := by kernel_rfl
def Nd.Lies (w : World) (R : Nat → Prop) (ns : List Nd) (v : Value) : Prop :=
 ∃ a d, v = .slice a ns.length d ∧ ns.length ≤ d ∧ d ≤ maxLen ∧ ∀ i x, ns[i]? = some x → ∃ b o av, a = some ⟨b, o, none⟩ ∧ R b ∧ w.cell? ⟨b, o + i * 5, none⟩ = some (.int .i64 x.kind) ∧ w.cell? ⟨b, o + i * 5 + 1, none⟩ = some (.string x.name) ∧ w.cell? ⟨b, o + i * 5 + 2, none⟩ = some (.string x.text) ∧ w.cell? ⟨b, o + i * 5 + 3, none⟩ = some av ∧ w.cell? ⟨b, o + i * 5 + 4, none⟩ = some (.int .i64 x.parent) ∧ Ak.Lies w R x.attrs av
theorem Nd.Lies.on {w w' : World} {R R' : Nat → Prop} {ns : List Nd} {v : Value} (h : Nd.Lies w R ns v) (hR : ∀ k, R k → R' k ∧ w'.heap[k]? = w.heap[k]?) : Nd.Lies w' R' ns v := by
 obtain ⟨a, d, e, h1, h2, hx⟩ := h
 refine ⟨a, d, e, h1, h2, fun i t hi => ?_⟩
 obtain ⟨b, o, av, ea, hb, c0, c1, c2, c3, c4, hl⟩ := hx i t hi
 obtain ⟨hb', hw⟩ := hR b hb
 exact ⟨b, o, av, ea, hb', (World.cell?_of_block (a := ⟨b, o + i * 5, none⟩) hw).trans c0, (World.cell?_of_block (a := ⟨b, o + i * 5 + 1, none⟩) hw).trans c1, (World.cell?_of_block (a := ⟨b, o + i * 5 + 2, none⟩) hw).trans c2, (World.cell?_of_block (a := ⟨b, o + i * 5 + 3, none⟩) hw).trans c3, (World.cell?_of_block (a := ⟨b, o + i * 5 + 4, none⟩) hw).trans c4, hl.on hR⟩
def Nd.Has (xs : List Value) (i : Nat) (x : Nd) (av : Value) : Prop := ∀ r u, (Nd.five x av)[r]? = some u → xs[i * 5 + r]? = some u
theorem Nd.five_lt {x : Nd} {av u : Value} {r : Nat} (h : (Nd.five x av)[r]? = some u) : r < 5 := (List.getElem?_eq_some_iff.1 h).1
def Um.Row (base : Nat) (ns : List Nd) (w : World) (v : Value) (no : Nat → Prop) : Prop :=
 ∃ xs, w.ownsRow base 48 5 v ns.length xs ∧ ∀ i x, ns[i]? = some x → ∃ av, Nd.Has xs i x av ∧ Ak.Lies w (fun k => base ≤ k ∧ k < w.heap.size ∧ v.ownBlock ≠ some k ∧ ¬ no k ∧ Rm.Ub w k) x.attrs av
theorem Um.Row.on {base : Nat} {ns : List Nd} {w w' : World} {v : Value} {no no' : Nat → Prop} (h : Um.Row base ns w v no) (hs : w.heap.size ≤ w'.heap.size) (hb : ∀ k, v.ownBlock = some k → w'.heap[k]? = w.heap[k]?) (hw : ∀ k, base ≤ k → k < w.heap.size → v.ownBlock ≠ some k → ¬ no k → ¬ no' k ∧ w'.heap[k]? = w.heap[k]?) : Um.Row base ns w' v no' := by
 obtain ⟨xs, ho, hx⟩ := h
 refine ⟨xs, Rm.own_on ho hb, fun i t hi => ?_⟩
 obtain ⟨av, h0, hl⟩ := hx i t hi
 refine ⟨av, h0, hl.on fun k hk => ?_⟩
 obtain ⟨h1, h2⟩ := hw k hk.1 hk.2.1 hk.2.2.1 hk.2.2.2.1
 exact ⟨⟨hk.1, Nat.lt_of_lt_of_le hk.2.1 hs, hk.2.2.1, h1, hk.2.2.2.2.on h2⟩, h2⟩
theorem Um.Row.push {base : Nat} {ns : List Nd} {w w2 : World} {v v' av : Value} {no no' : Nat → Prop} {x : Nd} (xs : List Value) (ho : w.ownsRow base 48 5 v ns.length xs)
  (hx : ∀ i x, ns[i]? = some x → ∃ av, Nd.Has xs i x av ∧ Ak.Lies w (fun k => base ≤ k ∧ k < w.heap.size ∧ v.ownBlock ≠ some k ∧ ¬ no k ∧ Rm.Ub w k) x.attrs av)
  (hs : w.heap.size ≤ w2.heap.size) (hown : w2.ownsRow base 48 5 v' (ns.length + 1) (xs ++ Nd.five x av))
  (hat : Ak.Lies w2 (fun k => base ≤ k ∧ k < w2.heap.size ∧ v'.ownBlock ≠ some k ∧ ¬ no' k ∧ Rm.Ub w2 k) x.attrs av)
  (hw : ∀ k, base ≤ k → k < w.heap.size → v.ownBlock ≠ some k → ¬ no k → (v'.ownBlock ≠ some k ∧ ¬ no' k) ∧ w2.heap[k]? = w.heap[k]?) : Um.Row base (ns ++ [x]) w2 v' no' := by
 have hl : xs.length = ns.length * 5 := ho.1
 refine ⟨xs ++ Nd.five x av, by rw [List.length_append]; exact hown, fun i u hi => ?_⟩
 by_cases hlt : i < ns.length
 ·
  rw [List.getElem?_append_left hlt] at hi
  obtain ⟨av1, x0, hl1⟩ := hx i u hi
  refine ⟨av1, fun r q hr => ?_, hl1.on fun k hk => ?_⟩
  ·
   have := Nd.five_lt hr
   rw [List.getElem?_append_left (by omega)]
   exact x0 r q hr
  ·
   obtain ⟨h1, h2⟩ := hw k hk.1 hk.2.1 hk.2.2.1 hk.2.2.2.1
   exact ⟨⟨hk.1, by omega, h1.1, h1.2, hk.2.2.2.2.on h2⟩, h2⟩
 ·
  have hi' : i = ns.length := by
   have := (List.getElem?_eq_some_iff.1 hi).1
   simp at this
   omega
  subst hi'
  have hu : u = x := by simpa using hi.symm
  subst hu
  refine ⟨av, fun r q hr => ?_, hat⟩
  rw [List.getElem?_append_right (by omega), hl, Nat.add_sub_cancel_left]
  exact hr
theorem Um.Row.lies {base : Nat} {ns : List Nd} {w : World} {v : Value} {no : Nat → Prop} (h : Um.Row base ns w v no) : Nd.Lies w (fun k => base ≤ k ∧ k < w.heap.size ∧ Rm.Ub w k) ns v := by
 obtain ⟨xs, ho, hx⟩ := h
 have hc := fun g hg => ho.cells (g := g) hg
 have hlt := ho.lt
 have hub : ∀ k, v.ownBlock = some k → Rm.Ub w k := fun k hk => Rm.Ub.own ho hk
 rcases ho.2 with ⟨rfl, hn⟩ | ⟨g, cap, cur, rfl, hbg, hg, hnc, hcm, hcs, htake⟩
 ·
  have : ns = [] := List.eq_nil_of_length_eq_zero hn
  subst this
  exact ⟨none, 0, rfl, Nat.le_refl _, Nat.zero_le _, fun j x h => by simp at h⟩
 ·
  refine ⟨some ⟨g, 0, none⟩, cap, rfl, hnc, hcm, fun i t hi => ?_⟩
  obtain ⟨av, h0, hl⟩ := hx i t hi
  have c0 := hc g rfl _ _ (h0 0 _ rfl)
  have c1 := hc g rfl _ _ (h0 1 _ rfl)
  have c2 := hc g rfl _ _ (h0 2 _ rfl)
  have c3 := hc g rfl _ _ (h0 3 _ rfl)
  have c4 := hc g rfl _ _ (h0 4 _ rfl)
  rw [Ro.add] at c0 c1 c2 c3 c4
  exact ⟨g, 0, av, rfl, ⟨(hlt g rfl).1, (hlt g rfl).2, hub g rfl⟩, c0, by rw [Nat.add_assoc]; exact c1, by rw [Nat.add_assoc]; exact c2, by rw [Nat.add_assoc]; exact c3, by rw [Nat.add_assoc]; exact c4, hl.on fun k hk => ⟨⟨hk.1, hk.2.1, hk.2.2.2.2⟩, rfl⟩⟩
theorem Um.Row.cell {base : Nat} {ns : List Nd} {w : World} {g n cap : Nat} {no : Nat → Prop} (h : Um.Row base ns w (.slice (some ⟨g, 0, none⟩) n cap) no) {i : Nat} {x : Nd} (hi : ns[i]? = some x) : ∃ av, (∀ r u, (Nd.five x av)[r]? = some u → w.cell? ⟨g, i * 5 + r, none⟩ = some u) := by
 obtain ⟨xs, ho, hx⟩ := h
 obtain ⟨av, h0, hl⟩ := hx i x hi
 refine ⟨av, fun r u hr => ?_⟩
 have := ho.cells (g := g) rfl _ _ (h0 r u hr)
 rw [Ro.add, Nat.zero_add] at this
 exact this
theorem Um.Row.put {base : Nat} {ns : List Nd} {w : World} {g cap : Nat} {no : Nat → Prop} (h : Um.Row base ns w (.slice (some ⟨g, 0, none⟩) ns.length cap) no) {i : Nat} {x : Nd} (hi : ns[i]? = some x) (y : ByteArray) : Um.Row base (ns.set i { x with text := y }) (w.setCell ⟨g, i * 5 + 2, none⟩ (.string y)) (.slice (some ⟨g, 0, none⟩) ns.length cap) no := by
 obtain ⟨xs, ho, hx⟩ := h
 have hlen := ho.1
 have hil : i < ns.length := (List.getElem?_eq_some_iff.1 hi).1
 refine ⟨xs.set (i * 5 + 2) (.string y), by rw [List.length_set]; exact (ho.stored (i * 5 + 2) (.string y)).1, fun j z hj => ?_⟩
 have hkeep : ∀ (al : List (ByteArray × ByteArray)) (av : Value), Ak.Lies w (fun k => base ≤ k ∧ k < w.heap.size ∧ (Value.slice (some ⟨g, 0, none⟩) ns.length cap).ownBlock ≠ some k ∧ ¬ no k ∧ Rm.Ub w k) al av → Ak.Lies (w.setCell ⟨g, i * 5 + 2, none⟩ (.string y)) (fun k => base ≤ k ∧ k < (w.setCell ⟨g, i * 5 + 2, none⟩ (.string y)).heap.size ∧ (Value.slice (some ⟨g, 0, none⟩) ns.length cap).ownBlock ≠ some k ∧ ¬ no k ∧ Rm.Ub (w.setCell ⟨g, i * 5 + 2, none⟩ (.string y)) k) al av := fun al av hl => hl.on fun k hk => by
  have hne : k ≠ g := fun e => hk.2.2.1 (by rw [e]; rfl)
  have hb : (w.setCell ⟨g, i * 5 + 2, none⟩ (.string y)).heap[k]? = w.heap[k]? := Below.heap_setCell _ _ _ _ hne
  exact ⟨⟨hk.1, by simpa using hk.2.1, hk.2.2.1, hk.2.2.2.1, hk.2.2.2.2.on hb⟩, hb⟩
 by_cases e : i = j
 ·
  subst e
  rw [List.getElem?_set_self hil] at hj
  injection hj with hj
  subst hj
  obtain ⟨av, h0, hl⟩ := hx i x hi
  refine ⟨av, fun r u hr => ?_, hkeep _ _ hl⟩
  have hr5 := Nd.five_lt hr
  by_cases e2 : r = 2
  ·
   subst e2
   have hu : u = .string y := by simpa [Nd.five] using hr.symm
   rw [List.getElem?_set_self (by omega), hu]
  ·
   rw [List.getElem?_set_ne (by omega)]
   refine h0 r u ?_
   have : r = 0 ∨ r = 1 ∨ r = 3 ∨ r = 4 := by omega
   rcases this with rfl | rfl | rfl | rfl <;> exact hr
 ·
  rw [List.getElem?_set_ne e] at hj
  obtain ⟨av, h0, hl⟩ := hx j z hj
  refine ⟨av, fun r u hr => ?_, hkeep _ _ hl⟩
  have hr5 := Nd.five_lt hr
  rw [List.getElem?_set_ne (by omega)]
  exact h0 r u hr
def Um.ints (l : List Nat) : List Value := l.map fun k : Nat => Value.int .i64 (k : Int)
theorem Um.ints_length (l : List Nat) : (Um.ints l).length = l.length := by unfold Um.ints; rw [List.length_map]
theorem Um.ints_get {l : List Nat} {i k : Nat} (h : l[i]? = some k) : (Um.ints l)[i]? = some (.int .i64 (k : Int)) := by unfold Um.ints; rw [List.getElem?_map, h]; rfl
theorem Um.ints_one (l : List Nat) : ∀ u ∈ Um.ints l, u.oneCell' = true := by
 intro u hu
 unfold Um.ints at hu
 obtain ⟨k, _, rfl⟩ := List.mem_map.1 hu
 rfl
theorem Um.ints_append (a b : List Nat) : Um.ints (a ++ b) = Um.ints a ++ Um.ints b := by unfold Um.ints; rw [List.map_append]
theorem Um.form {w : World} {base : Nat} {e : TypeId} {size n : Nat} {v : Value} {xs : List Value} (h : w.ownsRow base e size v n xs) : ∃ a d, v = .slice a n d := by
 rcases h.2 with ⟨rfl, rfl⟩ | ⟨g, cap, cur, rfl, _⟩
 ·
  exact ⟨_, _, rfl⟩
 ·
  exact ⟨_, _, rfl⟩
theorem Um.form1 {w : World} {base : Nat} {e : TypeId} {size n : Nat} {v : Value} {xs : List Value} (h : w.ownsRow base e size v n xs) (hn : 0 < n) : ∃ g d, v = .slice (some ⟨g, 0, none⟩) n d ∧ n ≤ d ∧ d ≤ maxLen := by
 rcases h.2 with ⟨rfl, rfl⟩ | ⟨g, cap, cur, rfl, _, _, h1, h2, _⟩
 ·
  exact absurd hn (by decide)
 ·
  exact ⟨g, cap, rfl, h1, h2⟩
structure Um.At (base : Nat) (w : World) (g : Nat) (m : Bt) (ov pv : Value) : Prop where
 ge : base ≤ g
 c0 : w.cell? ⟨g, 0, none⟩ = some ov
 c1 : w.cell? ⟨g, 1, none⟩ = some pv
 fz : ∀ i, w.frozen? ⟨g, i, none⟩ = false
 out : Um.Row base m.out w ov (fun k => k = g ∨ pv.ownBlock = some k)
 opn : w.ownsRow base 3 1 pv m.opn.length (Um.ints m.opn)
 og : ov.ownBlock ≠ some g
 pg : pv.ownBlock ≠ some g
 op : ∀ k, ov.ownBlock = some k → pv.ownBlock ≠ some k
theorem Um.At.lt {base : Nat} {w : World} {g : Nat} {m : Bt} {ov pv : Value} (h : Um.At base w g m ov pv) : g < w.heap.size := World.block_lt_of_cell? _ _ h.c0
theorem Um.At.ovLt {base : Nat} {w : World} {g : Nat} {m : Bt} {ov pv : Value} (h : Um.At base w g m ov pv) {k : Nat} (hk : ov.ownBlock = some k) : base ≤ k ∧ k < w.heap.size := by
 obtain ⟨xs, ho, _⟩ := h.out
 exact ho.lt k hk
theorem Um.At.pvLt {base : Nat} {w : World} {g : Nat} {m : Bt} {ov pv : Value} (h : Um.At base w g m ov pv) {k : Nat} (hk : pv.ownBlock = some k) : base ≤ k ∧ k < w.heap.size := h.opn.lt k hk
theorem Um.At.on {base : Nat} {w w' : World} {g : Nat} {m : Bt} {ov pv : Value} (h : Um.At base w g m ov pv) (hb : Below w.heap.size w w') : Um.At base w' g m ov pv :=
 ⟨h.ge, Tp.keep hb h.c0, Tp.keep hb h.c1, Tp.keepF hb h.lt h.fz, h.out.on hb.size (fun k hk => hb.block k (h.ovLt hk).2) (fun k _ h2 _ h4 => ⟨h4, hb.block k h2⟩), Rm.own_on h.opn (fun k hk => hb.block k (h.pvLt hk).2), h.og, h.pg, h.op⟩
def Um.Free (ov pv : Value) (g k : Nat) : Prop := k ≠ g ∧ ov.ownBlock ≠ some k ∧ pv.ownBlock ≠ some k
structure Um.Kept (w w' : World) (g : Nat) (ov pv ov' pv' : Value) : Prop where
 os : w'.os = w.os
 tape : w'.tape = w.tape
 output : w'.output = w.output
 size : w.heap.size ≤ w'.heap.size
 block : ∀ k, k < w.heap.size → Um.Free ov pv g k → w'.heap[k]? = w.heap[k]? ∧ Um.Free ov' pv' g k
theorem Um.Kept.trans {w w1 w2 : World} {g : Nat} {ov pv ov1 pv1 ov2 pv2 : Value} (h : Um.Kept w w1 g ov pv ov1 pv1) (h2 : Um.Kept w1 w2 g ov1 pv1 ov2 pv2) : Um.Kept w w2 g ov pv ov2 pv2 :=
 ⟨h2.os.trans h.os, h2.tape.trans h.tape, h2.output.trans h.output, Nat.le_trans h.size h2.size, fun k hk hf => by
  obtain ⟨a1, a2⟩ := h.block k hk hf
  obtain ⟨b1, b2⟩ := h2.block k (Nat.lt_of_lt_of_le hk h.size) a2
  exact ⟨b1.trans a1, b2⟩⟩
theorem Um.Kept.of {w w1 : World} (g : Nat) (ov pv : Value) (hb : Below w.heap.size w w1) : Um.Kept w w1 g ov pv ov pv := ⟨hb.os, hb.tape, hb.output, hb.size, fun k hk hf => ⟨hb.block k hk, hf⟩⟩
theorem Um.Kept.cell {w w' : World} {g : Nat} {ov pv ov' pv' : Value} (h : Um.Kept w w' g ov pv ov' pv') {b o : Nat} {v : Value} (hf : Um.Free ov pv g b) (hc : w.cell? ⟨b, o, none⟩ = some v) : w'.cell? ⟨b, o, none⟩ = some v :=
 (World.cell?_of_block (a := ⟨b, o, none⟩) (h.block b (World.block_lt_of_cell? _ _ hc) hf).1).trans hc
theorem Um.At.push {base : Nat} {w w1 w4 : World} {g : Nat} {m : Bt} {ov pv ov' av : Value} {x : Nd} (h : Um.At base w g m ov pv) (hq : Below w.heap.size w w1) (xs : List Value)
  (hx : w.ownsRow base 48 5 ov m.out.length xs ∧ ∀ i x, m.out[i]? = some x → ∃ av, Nd.Has xs i x av ∧ Ak.Lies w (fun k => base ≤ k ∧ k < w.heap.size ∧ ov.ownBlock ≠ some k ∧ ¬ (k = g ∨ pv.ownBlock = some k) ∧ Rm.Ub w k) x.attrs av)
  (hat : Ak.Lies w (fun k => base ≤ k ∧ k < w.heap.size ∧ ov.ownBlock ≠ some k ∧ ¬ (k = g ∨ pv.ownBlock = some k) ∧ Rm.Ub w k) x.attrs av)
  (R4 : w4.ownsRow base 48 5 ov' (m.out.length + 1) (xs ++ Nd.five x av)) (hg : w1.grownBy w4 ov.ownBlock) (hf : ov'.ownBlock = ov.ownBlock ∨ ov'.ownBlock = some w1.heap.size) :
  Um.At base (w4.setCell ⟨g, 0, none⟩ ov') g { m with out := m.out ++ [x] } ov' pv ∧ Um.Kept w (w4.setCell ⟨g, 0, none⟩ ov') g ov pv ov' pv := by
 have hlt := h.lt
 have hold : ∀ k, k < w.heap.size → ov.ownBlock ≠ some k → ov'.ownBlock ≠ some k ∧ w4.heap[k]? = w.heap[k]? := fun k hk hv => ⟨(fun e => by
  rcases hf with q | q
  ·
   rw [q] at e; exact hv e
  ·
   rw [q] at e; have := Option.some.inj e; have := hq.size; omega), (hg.block k (Nat.lt_of_lt_of_le hk hq.size) (fun e => hv e.symm)).trans (hq.block k hk)⟩
 have hne : ∀ k, k ≠ g → (w4.setCell ⟨g, 0, none⟩ ov').heap[k]? = w4.heap[k]? := fun k hk => Below.heap_setCell _ _ _ _ hk
 have hsz : w.heap.size ≤ w4.heap.size := Nat.le_trans hq.size hg.size
 have hpv : ∀ k, pv.ownBlock = some k → k < w.heap.size ∧ ov.ownBlock ≠ some k := fun k hk => ⟨(h.pvLt hk).2, fun e => h.op k e hk⟩
 obtain ⟨hg1, hg2⟩ := hold g hlt h.og
 have hT : Um.Row base (m.out ++ [x]) w4 ov' (fun k => k = g ∨ pv.ownBlock = some k) := by
  refine Um.Row.push xs hx.1 hx.2 hsz R4 (hat.on fun k hk => ?_) (fun k _ h2 h3 h4 => ⟨⟨(hold k h2 h3).1, h4⟩, (hold k h2 h3).2⟩)
  obtain ⟨q1, q2⟩ := hold k hk.2.1 hk.2.2.1
  exact ⟨⟨hk.1, by omega, q1, hk.2.2.2.1, hk.2.2.2.2.on q2⟩, q2⟩
 obtain ⟨ys, hys, hyx⟩ := id hT
 have hc0 : w4.cell? ⟨g, 0, none⟩ = some ov := (World.cell?_of_block (a := ⟨g, 0, none⟩) hg2).trans h.c0
 have hc1 : w4.cell? ⟨g, 1, none⟩ = some pv := (World.cell?_of_block (a := ⟨g, 1, none⟩) hg2).trans h.c1
 refine ⟨⟨h.ge, by simp [go_sem, hc0], ?_, fun i => ?_, ?_, ?_, hg1, h.pg, fun k hk hk2 => (hold k (hpv k hk2).1 (hpv k hk2).2).1 hk⟩, ⟨hg.os.trans hq.os, hg.tape.trans hq.tape, hg.output.trans hq.output, by simpa using hsz, fun k hk hfr => ⟨?_, hfr.1, (hold k hk hfr.2.1).1, hfr.2.2⟩⟩⟩
 ·
  rw [World.cell?_setCell_other _ _ _ _ (fun e => by injection e with e1 e2; cases e2)]
  exact hc1
 ·
  rw [World.frozen?_setCell]
  have := h.fz i
  unfold World.frozen? at this ⊢
  rw [hg2]
  exact this
 ·
  exact hT.on (by simp) (fun k hk => hne k (fun e => hg1 (by rw [← e]; exact hk))) (fun k _ _ _ h4 => ⟨h4, hne k (fun e => h4 (.inl e))⟩)
 ·
  exact Rm.own_on h.opn (fun k hk => (hne k (fun e => h.pg (by rw [← e]; exact hk))).trans (hold k (hpv k hk).1 (hpv k hk).2).2)
 ·
  rw [hne k hfr.1]
  exact (hold k hk hfr.2.1).2
theorem Um.At.put {base : Nat} {w : World} {g : Nat} {m : Bt} {og od : Nat} {pv : Value} (h : Um.At base w g m (.slice (some ⟨og, 0, none⟩) m.out.length od) pv) {i : Nat} {x : Nd} (hi : m.out[i]? = some x) (y : ByteArray) :
  Um.At base (w.setCell ⟨og, i * 5 + 2, none⟩ (.string y)) g { m with out := m.out.set i { x with text := y } } (.slice (some ⟨og, 0, none⟩) m.out.length od) pv ∧ Um.Kept w (w.setCell ⟨og, i * 5 + 2, none⟩ (.string y)) g (.slice (some ⟨og, 0, none⟩) m.out.length od) pv (.slice (some ⟨og, 0, none⟩) m.out.length od) pv := by
 have hg : g ≠ og := fun e => h.og (by rw [e]; rfl)
 have hne : ∀ k, k ≠ og → (w.setCell ⟨og, i * 5 + 2, none⟩ (.string y)).heap[k]? = w.heap[k]? := fun k hk => Below.heap_setCell _ _ _ _ hk
 have hb := hne g hg
 refine ⟨⟨h.ge, (World.cell?_of_block (a := ⟨g, 0, none⟩) hb).trans h.c0, (World.cell?_of_block (a := ⟨g, 1, none⟩) hb).trans h.c1, fun j => by rw [World.frozen?_setCell]; exact h.fz j, ?_, ?_, h.og, h.pg, h.op⟩, ⟨rfl, rfl, rfl, by simp, fun k _ hf => ⟨hne k (fun e => hf.2.1 (by rw [e]; rfl)), hf⟩⟩⟩
 ·
  have := Um.Row.put h.out hi y
  exact this
 ·
  exact Rm.own_on h.opn (fun k hk => hne k (fun e => h.op og rfl (by rw [← e]; exact hk)))
theorem Um.At.open {base : Nat} {w w1 w4 : World} {g : Nat} {m : Bt} {ov pv pv' : Value} {l : List Nat} (h : Um.At base w g m ov pv) (hq : Below w.heap.size w w1) {r : Option Nat} (hr : r = pv.ownBlock ∨ ∃ k, r = some k ∧ w.heap.size ≤ k)
  (R4 : w4.ownsRow base 3 1 pv' l.length (Um.ints l)) (hg : w1.grownBy w4 r) (hf : pv'.ownBlock = pv.ownBlock ∨ ∃ k, pv'.ownBlock = some k ∧ w.heap.size ≤ k) :
  Um.At base (w4.setCell ⟨g, 1, none⟩ pv') g { m with opn := l } ov pv' ∧ Um.Kept w (w4.setCell ⟨g, 1, none⟩ pv') g ov pv ov pv' := by
 have hlt := h.lt
 have hold : ∀ k, k < w.heap.size → pv.ownBlock ≠ some k → pv'.ownBlock ≠ some k ∧ w4.heap[k]? = w.heap[k]? := fun k hk hv => ⟨(fun e => by
  rcases hf with q | ⟨k', q, hk'⟩
  ·
   rw [q] at e; exact hv e
  ·
   rw [q] at e; have := Option.some.inj e; omega), (hg.block k (Nat.lt_of_lt_of_le hk hq.size) (fun e => by
   rcases hr with q | ⟨k', q, hk'⟩
   ·
    rw [q] at e; exact hv e.symm
   ·
    rw [q] at e; have := Option.some.inj e; omega)).trans (hq.block k hk)⟩
 have hne : ∀ k, k ≠ g → (w4.setCell ⟨g, 1, none⟩ pv').heap[k]? = w4.heap[k]? := fun k hk => Below.heap_setCell _ _ _ _ hk
 have hsz : w.heap.size ≤ w4.heap.size := Nat.le_trans hq.size hg.size
 obtain ⟨hg1, hg2⟩ := hold g hlt h.pg
 have hov : ∀ k, ov.ownBlock = some k → k < w.heap.size ∧ pv.ownBlock ≠ some k := fun k hk => ⟨(h.ovLt hk).2, h.op k hk⟩
 have hc0 : w4.cell? ⟨g, 0, none⟩ = some ov := (World.cell?_of_block (a := ⟨g, 0, none⟩) hg2).trans h.c0
 have hc1 : w4.cell? ⟨g, 1, none⟩ = some pv := (World.cell?_of_block (a := ⟨g, 1, none⟩) hg2).trans h.c1
 refine ⟨⟨h.ge, ?_, by simp [go_sem, hc1], fun i => ?_, ?_, ?_, h.og, hg1, fun k hk => (hold k (hov k hk).1 (hov k hk).2).1⟩, ⟨hg.os.trans hq.os, hg.tape.trans hq.tape, hg.output.trans hq.output, by simpa using hsz, fun k hk hfr => ⟨?_, hfr.1, hfr.2.1, (hold k hk hfr.2.2).1⟩⟩⟩
 ·
  rw [World.cell?_setCell_other _ _ _ _ (fun e => by injection e with e1 e2; cases e2)]
  exact hc0
 ·
  rw [World.frozen?_setCell]
  have := h.fz i
  unfold World.frozen? at this ⊢
  rw [hg2]
  exact this
 ·
  refine h.out.on (by simpa using hsz) (fun k hk => (hne k (fun e => h.og (by rw [← e]; exact hk))).trans (hold k (hov k hk).1 (hov k hk).2).2) (fun k _ h2 _ h4 => ?_)
  have h5 : pv.ownBlock ≠ some k := fun e => h4 (.inr e)
  refine ⟨fun q => ?_, (hne k (fun e => h4 (.inl e))).trans (hold k h2 h5).2⟩
  rcases q with q | q
  ·
   exact h4 (.inl q)
  ·
   exact (hold k h2 h5).1 q
 ·
  exact Rm.own_on R4 (fun k hk => hne k (fun e => hg1 (by rw [← e]; exact hk)))
 ·
  rw [hne k hfr.1]
  exact (hold k hk hfr.2.2).2
theorem Um.At.drew {base : Nat} {w : World} {g : Nat} {m : Bt} {ov pv : Value} (h : Um.At base w g m ov pv) : Um.At base w.drew g m ov pv := h.on (Below.refl _ _).drew
end Go.Proofs.YtblpkjlodncpeaaGreatDoor

/-
  PLAIN: templates: the document's Parse by places in the pieces; items as data.
-/
import Derived.Test.YtjppobeomocgbaaGreatDoorTLSplittoGLet
import Derived.Test.YtjppobeomocgbaaGreatDoorTIParsetoOCur
import Derived.Test.YtjppobeomocgbaaGreatDoorTOMemtoOWords
import Derived.Test.YtjppobeomocgbaaGreatDoorTLRef2toLMem
import Derived.Test.YtjppobeomocgbaaGreatDoorTOPlaintoIArgMay
import Derived.Deep.QuietTactic
import Derived.Deep.RegionHeld3
namespace Go.Proofs.YtjppobeomocgbaaGreatDoor
/-- an item -/
inductive It where
  | mk (kind : Int) (text : List UInt8) (pipe : List Cm) (thn els : List It)
def Wo.wi (x : Wo) : Wi := ⟨x.kind, x.text, x.path, x.num⟩
def Tm.sElse : List UInt8 := [101, 108, 115, 101]
def Tm.sEnd : List UInt8 := [101, 110, 100]
def Tm.sBreak : List UInt8 := [98, 114, 101, 97, 107]
def Tm.sCont : List UInt8 := [99, 111, 110, 116, 105, 110, 117, 101]
def Tm.sTmpl : List UInt8 := [116, 101, 109, 112, 108, 97, 116, 101]
def Tm.sIf : List UInt8 := [105, 102]
def Tm.sWith : List UInt8 := [119, 105, 116, 104]
def Tm.sRange : List UInt8 := [114, 97, 110, 103, 101]
/-- an item with a pipe -/
def Tm.pipe (k : Int) (t : List UInt8) (ws : List Wo) : Except Int It :=
  let r := Pi.parse (ws.map Wo.wi)
  if r.2 = 0 then .ok (.mk k t r.1 [] []) else .error r.2
/-- an if, a with, a range; rows: its rows' reading -/
def Tm.block (rows : Nat → Bool → Nat → Except Int (List It × Nat × Nat)) (k : Int) (ws : List Wo) (deep : Nat) (loop : Bool) (i : Nat) : Except Int (It × Nat) :=
  let r := Pi.parse (ws.map Wo.wi)
  if r.2 ≠ 0 then .error r.2
  else if 16 ≤ deep then .error 1603
  else
    match rows (deep + 1) (loop || decide (k = 5)) i with
    | .error e => .error e
    | .ok (thn, tag, j) =>
      if tag = 1 then
        match rows (deep + 1) loop j with
        | .error e => .error e
        | .ok (els, tag2, j2) => if tag2 = 1 then .error 1601 else if tag2 = 0 then .error 1600 else .ok (.mk k [] r.1 thn els, j2)
      else if tag = 0 then .error 1600 else .ok (.mk k [] r.1 thn [], j)
/-- the item of an action whose first name is w -/
def Tm.item (rows : Nat → Bool → Nat → Except Int (List It × Nat × Nat)) (w : List UInt8) (ws : List Wo) (deep : Nat) (loop : Bool) (i : Nat) : Except Int (It × Nat) :=
  if w = Tm.sBreak then .ok (.mk 7 [] [] [] [], i)
  else if w = Tm.sCont then .ok (.mk 8 [] [] [] [], i)
  else if w = Tm.sTmpl then
    match ws with
    | _ :: x :: rest => if x.kind ≠ 4 then .error 1604 else if rest = [] then .ok (.mk 6 x.text [] [] [], i) else (Tm.pipe 6 x.text rest).map fun y => (y, i)
    | _ => .error 1604
  else if w = Tm.sIf then Tm.block rows 3 (ws.drop 1) deep loop i
  else if w = Tm.sWith then Tm.block rows 4 (ws.drop 1) deep loop i
  else if w = Tm.sRange then Tm.block rows 5 (ws.drop 1) deep loop i
  else
    match ws with
    | x :: y :: rest => if x.kind = 2 ∧ x.path = [] ∧ y.kind = 6 then (Tm.pipe 2 x.text rest).map fun z => (z, i) else (Tm.pipe 1 [] ws).map fun z => (z, i)
    | _ => (Tm.pipe 1 [] ws).map fun z => (z, i)
/-- an action's first name -/
def Tm.first (ws : List Wo) : List UInt8 :=
  match ws with
  | x :: _ => if x.kind = 0 then x.text else []
  | [] => []
/-- rows of items up to an else (1), an end (2) or the last piece (0) -/
def Tm.rows (ps : List Pc) : Nat → Nat → Bool → Nat → List It → Except Int (List It × Nat × Nat)
  | 0, _, _, i, out => .ok (out, 0, i)
  | n + 1, deep, loop, i, out =>
    match ps[i]? with
    | none => .ok (out, 0, i)
    | some p =>
      if p.act = false then Tm.rows ps n deep loop (i + 1) (out ++ [.mk 0 p.text [] [] []])
      else
        let r := Wx.words ⟨p.text.toArray⟩
        if r.2 ≠ 0 then .error r.2
        else if r.1 = [] then .error 1604
        else
          let w := Tm.first r.1
          if (w = Tm.sElse ∨ w = Tm.sEnd ∨ w = Tm.sBreak ∨ w = Tm.sCont) ∧ 1 < r.1.length then .error 1604
          else if w = Tm.sElse then .ok (out, 1, i + 1)
          else if w = Tm.sEnd then .ok (out, 2, i + 1)
          else if (w = Tm.sBreak ∨ w = Tm.sCont) ∧ loop = false then .error 1602
          else
            match Tm.item (fun d l j => Tm.rows ps n d l j []) w r.1 deep loop (i + 1) with
            | .error e => .error e
            | .ok (x, j) => Tm.rows ps n deep loop j (out ++ [x])
def Tm.fin (G : Except Int (List It × Nat × Nat)) : List It × Int :=
  match G with
  | .error e => ([], e)
  | .ok (out, tag, _) => if tag = 1 then ([], 1601) else if tag = 2 then ([], 1600) else (out, 0)
def Tm.parse (s : ByteArray) : List It × Int :=
  let p := Lx.split s
  if p.2 ≠ 0 then ([], p.2) else Tm.fin (Tm.rows p.1 (p.1.length + 1) 0 false 0 [])
/-- an item's five cells -/
def It.dt : It → List Dt
  | .mk k t p a b => [.int .i64 k, .str t, Cm.rows p, Dt.flat a.length 5 (a.attach.flatMap fun x => It.dt x.1), Dt.flat b.length 5 (b.attach.flatMap fun x => It.dt x.1)]
termination_by x => SizeOf.sizeOf x
decreasing_by
  all_goals
    have h := List.sizeOf_lt_of_mem x.2
    simp
    omega
/-- items in a row -/
abbrev It.rows (l : List It) : Dt := Dt.rows 5 It.dt l
theorem It.dt_mk (k : Int) (t : List UInt8) (p : List Cm) (a b : List It) : It.dt (.mk k t p a b) = [.int .i64 k, .str t, Cm.rows p, It.rows a, It.rows b] := by
  have e : ∀ l : List It, (l.attach.flatMap fun x => It.dt x.1) = l.flatMap It.dt := fun l => by
    rw [List.flatMap_subtype (g := It.dt) (fun x h => rfl), List.unattach_attach]
  rw [It.dt, e, e]
  rfl
theorem It.dt_len (x : It) : (It.dt x).length = 5 := by
  cases x
  rw [It.dt_mk]
  rfl
theorem It.small (k : Int) (t : List UInt8) (p : List Cm) (a b : List It) : (∀ x ∈ a, SizeOf.sizeOf x < SizeOf.sizeOf (It.mk k t p a b)) ∧ ∀ x ∈ b, SizeOf.sizeOf x < SizeOf.sizeOf (It.mk k t p a b) :=
  ⟨fun x hx => by have h := List.sizeOf_lt_of_mem hx; simp; omega, fun x hx => by have h := List.sizeOf_lt_of_mem hx; simp; omega⟩
end Go.Proofs.YtjppobeomocgbaaGreatDoor
/-
  PLAIN: items of pieces, one by one; actions without blocks.
-/
namespace Go.Proofs.YtjppobeomocgbaaGreatDoor
/-- an action that begins no block, ends none -/
def Tm.calm (w : List UInt8) : Prop := w ≠ Tm.sElse ∧ w ≠ Tm.sEnd ∧ w ≠ Tm.sBreak ∧ w ≠ Tm.sCont ∧ w ≠ Tm.sIf ∧ w ≠ Tm.sWith ∧ w ≠ Tm.sRange
instance (w : List UInt8) : Decidable (Tm.calm w) := by unfold Tm.calm; exact inferInstance
/-- the item of such an action's words -/
def Tm.one (w : List UInt8) (ws : List Wo) : Except Int It :=
  if w = Tm.sTmpl then
    match ws with
    | _ :: x :: rest => if x.kind ≠ 4 then .error 1604 else if rest = [] then .ok (.mk 6 x.text [] [] []) else Tm.pipe 6 x.text rest
    | _ => .error 1604
  else
    match ws with
    | x :: y :: rest => if x.kind = 2 ∧ x.path = [] ∧ y.kind = 6 then Tm.pipe 2 x.text rest else Tm.pipe 1 [] ws
    | _ => Tm.pipe 1 [] ws
theorem Tm.item_one {rows : Nat → Bool → Nat → Except Int (List It × Nat × Nat)} {w : List UInt8} {ws : List Wo} {deep i : Nat} {loop : Bool} (h : Tm.calm w) : Tm.item rows w ws deep loop i = (Tm.one w ws).map fun y => (y, i) := by
  obtain ⟨_, _, h1, h2, h3, h4, h5⟩ := h
  unfold Tm.item Tm.one
  rw [if_neg h1, if_neg h2]
  by_cases h6 : w = Tm.sTmpl
  · rw [if_pos h6, if_pos h6]
    rcases ws with _ | ⟨a, _ | ⟨b, rest⟩⟩
    · rfl
    · rfl
    · dsimp only
      split
      · rfl
      · split <;> rfl
  · rw [if_neg h6, if_neg h6, if_neg h3, if_neg h4, if_neg h5]
    rcases ws with _ | ⟨a, _ | ⟨b, rest⟩⟩
    · rfl
    · rfl
    · dsimp only
      split <;> rfl
/-- the item of an action's text, without a block -/
def Tm.flat (l : List UInt8) : Option It :=
  let r := Wx.words ⟨l.toArray⟩
  if r.2 ≠ 0 ∨ r.1 = [] ∨ ¬ Tm.calm (Tm.first r.1) then none
  else match Tm.one (Tm.first r.1) r.1 with
    | .ok x => some x
    | .error _ => none
section
variable {ps : List Pc} {n deep i : Nat} {loop : Bool} {out : List It} {l : List UInt8}
theorem Tm.flat_end (h : ps[i]? = none) : Tm.rows ps n deep loop i out = .ok (out, 0, i) := by
  cases n with
  | zero => rfl
  | succ n => unfold Tm.rows; rw [h]
theorem Tm.flat_text (h : (ps[i]?).map Pc.key = some (false, l)) : Tm.rows ps (n + 1) deep loop i out = Tm.rows ps n deep loop (i + 1) (out ++ [.mk 0 l [] [] []]) := by
  cases hp : ps[i]? with
  | none => rw [hp] at h; cases h
  | some p =>
    rw [hp] at h
    have h := Option.some.inj h
    injection h with h1 h2
    conv => lhs; unfold Tm.rows
    rw [hp]
    dsimp only
    rw [if_pos h1, h2]
theorem Tm.flat_act {x : It} (h : (ps[i]?).map Pc.key = some (true, l)) (hx : Tm.flat l = some x) : Tm.rows ps (n + 1) deep loop i out = Tm.rows ps n deep loop (i + 1) (out ++ [x]) := by
  cases hp : ps[i]? with
  | none => rw [hp] at h; cases h
  | some p =>
    rw [hp] at h
    have h := Option.some.inj h
    injection h with h1 h2
    unfold Tm.flat at hx
    dsimp only at hx
    split at hx
    · cases hx
    · rename_i hc
      have hw : (Wx.words ⟨l.toArray⟩).2 = 0 := Classical.not_not.1 fun q => hc (.inl q)
      have hn : (Wx.words ⟨l.toArray⟩).1 ≠ [] := fun q => hc (.inr (.inl q))
      have hk : Tm.calm (Tm.first (Wx.words ⟨l.toArray⟩).1) := Classical.not_not.1 fun q => hc (.inr (.inr q))
      cases ho : Tm.one (Tm.first (Wx.words ⟨l.toArray⟩).1) (Wx.words ⟨l.toArray⟩).1 with
      | error e => rw [ho] at hx; cases hx
      | ok y =>
        rw [ho] at hx
        have hx := Option.some.inj hx
        subst hx
        conv => lhs; unfold Tm.rows
        rw [hp]
        dsimp only
        obtain ⟨k1, k2, k3, k4, _⟩ := id hk
        rw [if_neg (by rw [h1]; decide), h2, if_neg (by rw [hw]; decide), if_neg hn, if_neg (fun q => q.1.elim k1 fun q => q.elim k2 fun q => q.elim k3 k4), if_neg k1, if_neg k2, if_neg (fun q => q.1.elim k3 k4), Tm.item_one hk, ho]
        rfl
end
/-- rows that are flat: a piece, an item -/
theorem Tm.flat_all {ps : List Pc} {deep : Nat} {loop : Bool} : ∀ (qs : List (Bool × List UInt8)) (xs : List It) (n i : Nat) (out : List It), (∀ (j : Nat) (q : Bool × List UInt8), qs[j]? = some q → (ps[i + j]?).map Pc.key = some q) → qs.length = xs.length → (∀ (j : Nat) (q : Bool × List UInt8) (x : It), qs[j]? = some q → xs[j]? = some x → (q.1 = false ∧ x = .mk 0 q.2 [] [] []) ∨ (q.1 = true ∧ Tm.flat q.2 = some x)) → Tm.rows ps (n + qs.length) deep loop i out = Tm.rows ps n deep loop (i + qs.length) (out ++ xs) := by
  intro qs
  induction qs with
  | nil =>
    intro xs n i out _ hl _
    have : xs = [] := List.eq_nil_of_length_eq_zero (by simpa using hl.symm)
    subst this
    rw [List.append_nil]
    rfl
  | cons q qs ih =>
    intro xs n i out hk hl hx
    obtain ⟨x, xs, rfl⟩ : ∃ x ys, xs = x :: ys := by
      cases xs with
      | nil => cases hl
      | cons x ys => exact ⟨x, ys, rfl⟩
    have h0 := hk 0 q rfl
    rw [Nat.add_zero] at h0
    have hstep : Tm.rows ps (n + qs.length + 1) deep loop i out = Tm.rows ps (n + qs.length) deep loop (i + 1) (out ++ [x]) := by
      obtain ⟨a, l⟩ := q
      rcases hx 0 (a, l) x rfl rfl with ⟨h1, h2⟩ | ⟨h1, h2⟩
      · dsimp only at h1 h2
        subst h1 h2
        exact Tm.flat_text h0
      · dsimp only at h1 h2
        subst h1
        exact Tm.flat_act h0 h2
    rw [List.length_cons, ← Nat.add_assoc, hstep, ih xs n (i + 1) (out ++ [x]) (fun j q h => by rw [Nat.add_assoc, Nat.add_comm 1 j]; exact hk (j + 1) q h) (by simpa using hl) (fun j q y h1 h2 => hx (j + 1) q y h1 h2)]
    rw [List.append_assoc, show i + 1 + qs.length = i + (qs.length + 1) by omega]
    rfl
/-- a flat source -/
theorem Tm.parse_flat {s : ByteArray} {us : List Un} {tl : List UInt8} {xs : List It} (hs : s.data.toList = us.flatMap Un.src ++ tl) (hg : ∀ u ∈ us, u.Good) (htl : ∀ c ∈ tl, c ≠ 123 ∧ c ≠ 13) (hz : s.size ≤ 65536) (hl : (us.flatMap Un.pcs ++ Un.one tl).length = xs.length)
    (hx : ∀ (j : Nat) (q : Bool × List UInt8) (x : It), (us.flatMap Un.pcs ++ Un.one tl)[j]? = some q → xs[j]? = some x → (q.1 = false ∧ x = .mk 0 q.2 [] [] []) ∨ (q.1 = true ∧ Tm.flat q.2 = some x)) : Tm.parse s = if 1024 < xs.length then ([], 1302) else (xs, 0) := by
  obtain ⟨h1, h2⟩ := Un.split hs hg htl hz
  unfold Tm.parse
  by_cases hc : 1024 < xs.length
  · rw [if_pos hc, h2 (by omega)]
    rfl
  · rw [if_neg hc]
    obtain ⟨ps, h3, h4⟩ := h1 (by omega)
    rw [h3]
    dsimp only
    rw [if_neg (by decide)]
    generalize hQ : us.flatMap Un.pcs ++ Un.one tl = Q at *
    have hpl : ps.length = Q.length := by rw [← h4, List.length_map]
    have hr := Tm.flat_all (ps := ps) (deep := 0) (loop := false) Q xs 1 0 [] (fun j q hj => by rw [Nat.zero_add, ← List.getElem?_map, h4]; exact hj) hl hx
    rw [hpl, Nat.add_comm, hr, List.nil_append, Tm.flat_end (List.getElem?_eq_none (by omega))]
    rfl
end Go.Proofs.YtjppobeomocgbaaGreatDoor
/-
  THE REFERENCE's READER OF PIECES in memory; items in memory; words as data.
-/
namespace Go.Proofs.YtjppobeomocgbaaGreatDoor
open Go.RowKit
/-- the reader lies in block g -/
def Tr.At (w : World) (g : Nat) (pv : Value) (i : Nat) (e : Int) : Prop := Bs.Box w g #[pv, .int .i64 (i : Int), .int .i64 e] 64
section
variable {w w' : World} {g i : Nat} {pv : Value} {e : Int}
theorem Tr.At.c0 (h : Tr.At w g pv i e) : w.cell? ⟨g, 0, none⟩ = some pv := Bs.Box.cell h 0 rfl
theorem Tr.At.c1 (h : Tr.At w g pv i e) : w.cell? ⟨g, 1, none⟩ = some (.int .i64 (i : Int)) := Bs.Box.cell h 1 rfl
theorem Tr.At.c2 (h : Tr.At w g pv i e) : w.cell? ⟨g, 2, none⟩ = some (.int .i64 e) := Bs.Box.cell h 2 rfl
theorem Tr.At.fz (h : Tr.At w g pv i e) : ∀ q, w.frozen? ⟨g, q, none⟩ = false := fun q => Bs.Box.frozen h q
theorem Tr.At.lt (h : Tr.At w g pv i e) : g < w.heap.size := Bs.Box.lt h
theorem Tr.At.drewN (h : Tr.At w g pv i e) (n : Nat) : Tr.At (w.drewN n) g pv i e := h
theorem Tr.At.set1 (h : Tr.At w g pv i e) (j : Nat) : Tr.At (w.setCell ⟨g, 1, none⟩ (.int .i64 (j : Int))) g pv j e := Bs.Box.set h 1 _
theorem Tr.At.set2 (h : Tr.At w g pv i e) (x : Int) : Tr.At (w.setCell ⟨g, 2, none⟩ (.int .i64 x)) g pv i x := Bs.Box.set h 2 _
theorem Tr.At.then (h : Tr.At w g pv i e) (hb : Below w.heap.size w w') : Tr.At w' g pv i e := Bs.Box.on h hb (Bs.Box.lt h)
theorem Tr.At.same (h : Tr.At w g pv i e) (hq : w'.heap[g]? = w.heap[g]?) : Tr.At w' g pv i e := hq.trans h
end
set_option maxHeartbeats 1000000 in
theorem Tr.five {w : World} {r : Nat} {c0 c1 c2 c3 c4 : Value} {T : TypeId} (h : Bs.Box w r #[c0, c1, c2, c3, c4] T) (v0 v1 v2 v3 v4 : Value) :
    ∃ W, ((((w.setCell ⟨r, 0, none⟩ v0).setCell ⟨r, 1, none⟩ v1).setCell ⟨r, 2, none⟩ v2).setCell ⟨r, 3, none⟩ v3).setCell ⟨r, 4, none⟩ v4 = W ∧ Bs.Box W r #[v0, v1, v2, v3, v4] T ∧ (∀ k, k ≠ r → W.heap[k]? = w.heap[k]?) ∧ W.heap.size = w.heap.size ∧ W.os = w.os ∧ W.tape = w.tape ∧ W.output = w.output :=
  ⟨_, rfl, ((((h.set 0 v0).set 1 v1).set 2 v2).set 3 v3).set 4 v4, fun k hk => by
    rw [Below.heap_setCell _ _ _ _ hk, Below.heap_setCell _ _ _ _ hk, Below.heap_setCell _ _ _ _ hk, Below.heap_setCell _ _ _ _ hk, Below.heap_setCell _ _ _ _ hk], by simp, rfl, rfl, rfl⟩
theorem Tr.cells5 {w : World} {r : Nat} {c0 c1 c2 c3 c4 : Value} {T : TypeId} (h : Bs.Box w r #[c0, c1, c2, c3, c4] T) : w.cell? ⟨r, 0, none⟩ = some c0 ∧ w.cell? ⟨r, 1, none⟩ = some c1 ∧ w.cell? ⟨r, 2, none⟩ = some c2 ∧ w.cell? ⟨r, 3, none⟩ = some c3 ∧ w.cell? ⟨r, 4, none⟩ = some c4 ∧ ∀ q, w.frozen? ⟨r, q, none⟩ = false :=
  ⟨h.cell 0 rfl, h.cell 1 rfl, h.cell 2 rfl, h.cell 3 rfl, h.cell 4 rfl, fun q => h.frozen q⟩
theorem Tr.box_kept {w w' : World} {g r : Nat} {cs : Array Value} {T : TypeId} (h : Bs.Box w r cs T) (hk : Cu.Kept w w' g) (hg : r ≠ g) : Bs.Box w' r cs T := (hk.block r h.lt hg).trans h
/-- what turned but blocks at or beyond w's end is kept, but for g -/
theorem Tr.kept_more {w u W : World} {g : Nat} (h : Cu.Kept w u g) (hq : ∀ k, k < w.heap.size → k ≠ g → W.heap[k]? = u.heap[k]?) (hz : u.heap.size ≤ W.heap.size) (ho : W.os = u.os) (ht : W.tape = u.tape) (hu : W.output = u.output) : Cu.Kept w W g :=
  ⟨ho.trans h.os, ht.trans h.tape, hu.trans h.output, Nat.le_trans h.size hz, fun k hk hg => (hq k hk hg).trans (h.block k hk hg)⟩
/-- the words of an action, as data -/
theorem Wo.Lies.data {w : World} {R : Nat → Prop} {ws : List Wo} {v : Value} (h : Wo.Lies w R ws v) : Dt.Lies w R (Wi.rows (ws.map Wo.wi)) v := by
  obtain ⟨a, d, rfl, h1, h2, hx⟩ := h
  have e : ws.length = (ws.map Wo.wi).length := by rw [List.length_map]
  rw [e]
  refine Dt.Lies.put (fun _ => rfl) (by decide) (by rw [← e]; exact h1) h2 fun i x hi => ?_
  rw [List.getElem?_map] at hi
  obtain ⟨y, hy, rfl⟩ := Option.map_eq_some_iff.1 hi
  obtain ⟨b, o, pv, ea, hb, c0, c1, c2, c3, hl⟩ := hx i y hy
  refine ⟨b, o, ea, hb, fun r z hr => ?_⟩
  match r, hr with
  | 0, hr =>
    have hr : Dt.int .i64 (y.kind : Int) = z := Option.some.inj hr
    subst hr
    exact ⟨_, c0, by unfold Dt.Lies; rfl⟩
  | 1, hr =>
    have hr : Dt.str y.text = z := Option.some.inj hr
    subst hr
    exact ⟨_, c1, by unfold Dt.Lies; rfl⟩
  | 2, hr =>
    have hr : Dt.texts y.path = z := Option.some.inj hr
    subst hr
    exact ⟨_, c2, hl.data⟩
  | 3, hr =>
    have hr : Dt.int .i64 y.num = z := Option.some.inj hr
    subst hr
    exact ⟨_, c3, by unfold Dt.Lies; rfl⟩
/-- words whose parts are none too long -/
def Tm.Fit (ws : List Wo) : Prop := ws.length ≤ 1048576 ∧ ∀ x ∈ ws, x.text.length ≤ 16777216 ∧ ∀ t ∈ x.path, t.length ≤ 1048576
theorem Tm.Fit.drop {ws : List Wo} (h : Tm.Fit ws) (n : Nat) : Tm.Fit (ws.drop n) := ⟨by have := h.1; rw [List.length_drop]; omega, fun x hx => h.2 x (List.mem_of_mem_drop hx)⟩
theorem Tm.Fit.wi {ws : List Wo} (h : Tm.Fit ws) : (ws.map Wo.wi).length ≤ 1048576 ∧ ∀ x ∈ ws.map Wo.wi, x.text.length ≤ 4611686018427387904 ∧ ∀ t ∈ x.path, t.length ≤ 4611686018427387904 :=
  ⟨by rw [List.length_map]; exact h.1, fun x hx => by
    obtain ⟨y, hy, rfl⟩ := List.mem_map.1 hx
    exact ⟨by have := (h.2 y hy).1; show y.text.length ≤ _; omega, fun t ht => by have := (h.2 y hy).2 t ht; omega⟩⟩
/-- a row of data has a slice's form -/
theorem Tr.form {α : Type} {k : Nat} {f : α → List Dt} {w : World} {R : Nat → Prop} {l : List α} {v : Value} (h : Dt.Lies w R (Dt.rows k f l) v) : ∃ a d, v = .slice a l.length d := by
  unfold Dt.rows Dt.flat Dt.Lies at h
  obtain ⟨a, d, e, _⟩ := h
  exact ⟨a, d, e⟩
/-- items in a row of one's own; none of it is block g -/
abbrev It.Own (base g : Nat) (l : List It) (w : World) (v : Value) (xs : List Value) : Prop := Gr.Own base (· = g) 37 5 l.length (l.flatMap It.dt) w v xs
theorem It.info : (Tryz.prog.info? 37).map (fun i => (i.zero, i.size, i.bytes)) = some (some (.agg #[.int .i64 0, .string ⟨#[]⟩, .slice none 0 0, .slice none 0 0, .slice none 0 0]), 5, 96) := by kernel_rfl
end Go.Proofs.YtjppobeomocgbaaGreatDoor
/-
  THE WALK of the reference's PipeMay.
-/
namespace Go.Proofs.YtjppobeomocgbaaGreatDoor
open Go.RowKit
/-- an argument's five cells -/
theorem Ar.get {w : World} {R : Nat → Prop} {l : List Ar} {v : Value} (h : Dt.Lies w R (Ar.rows l) v) :
    ∃ a d, v = .slice a l.length d ∧ l.length ≤ d ∧ d ≤ maxLen ∧ ∀ i x, l[i]? = some x → ∃ b o pv, a = some ⟨b, o, none⟩ ∧ R b ∧ w.cell? ⟨b, o + i * 5, none⟩ = some (.int .i64 x.kind) ∧ w.cell? ⟨b, o + i * 5 + 1, none⟩ = some (.string ⟨x.name.toArray⟩) ∧ w.cell? ⟨b, o + i * 5 + 2, none⟩ = some pv ∧ w.cell? ⟨b, o + i * 5 + 3, none⟩ = some (.int .i64 x.num) ∧ w.cell? ⟨b, o + i * 5 + 4, none⟩ = some (.string ⟨x.text.toArray⟩) ∧ St.Lies w R x.path pv := by
  obtain ⟨a, d, e, h1, h2, hx⟩ := h.get (fun _ => rfl) (by decide)
  refine ⟨a, d, e, h1, h2, fun i x hi => ?_⟩
  obtain ⟨b, o, ea, hb, hc⟩ := hx i x hi
  obtain ⟨u0, c0, l0⟩ := hc 0 _ rfl
  obtain ⟨u1, c1, l1⟩ := hc 1 _ rfl
  obtain ⟨u2, c2, l2⟩ := hc 2 _ rfl
  obtain ⟨u3, c3, l3⟩ := hc 3 _ rfl
  obtain ⟨u4, c4, l4⟩ := hc 4 _ rfl
  unfold Dt.Lies at l0 l1 l3 l4
  subst l0 l1 l3 l4
  exact ⟨b, o, u2, ea, hb, c0, c1, c2, c3, c4, Dt.Lies.texts l2⟩
/-- a command's two cells -/
theorem Cm.get {w : World} {R : Nat → Prop} {l : List Cm} {v : Value} (h : Dt.Lies w R (Cm.rows l) v) :
    ∃ a d, v = .slice a l.length d ∧ l.length ≤ d ∧ d ≤ maxLen ∧ ∀ i x, l[i]? = some x → ∃ b o av, a = some ⟨b, o, none⟩ ∧ R b ∧ w.cell? ⟨b, o + i * 2, none⟩ = some (.string ⟨x.fn.toArray⟩) ∧ w.cell? ⟨b, o + i * 2 + 1, none⟩ = some av ∧ Dt.Lies w R (Ar.rows x.args) av := by
  obtain ⟨a, d, e, h1, h2, hx⟩ := h.get (fun _ => rfl) (by decide)
  refine ⟨a, d, e, h1, h2, fun i x hi => ?_⟩
  obtain ⟨b, o, ea, hb, hc⟩ := hx i x hi
  obtain ⟨u0, c0, l0⟩ := hc 0 _ rfl
  obtain ⟨u1, c1, l1⟩ := hc 1 _ rfl
  unfold Dt.Lies at l0
  subst l0
  exact ⟨b, o, u1, ea, hb, c0, c1, l1⟩
/-- texts that are not too great -/
def Cm.Fits (cs : List Cm) : Prop := ∀ c ∈ cs, ∀ x ∈ c.args, x.name.length ≤ 4611686018427387904 ∧ ∀ t ∈ x.path, t.length ≤ 4611686018427387904
theorem Pi.all_arg {l : List Ar} {i : Nat} (h : i < l.length) : (l.drop i).all Pi.argMay = (Pi.argMay l[i] && (l.drop (i + 1)).all Pi.argMay) := by rw [List.drop_eq_getElem_cons h, List.all_cons]
/-- the condition ahead of the arguments -/
def Pi.headBad (i : Nat) (c : Cm) : Bool := (!Pi.isFn c.fn && (!c.fn.isEmpty || (decide (0 < i) || !decide (c.args.length = 1)))) || decide (8 < c.args.length)
end Go.Proofs.YtjppobeomocgbaaGreatDoor
/-
  THE WALK of stolelaw0.SameTexts at the same texts.
-/
namespace Go.Proofs.YtjppobeomocgbaaGreatDoor
open Go.RowKit
set_option maxHeartbeats 2000000 in
theorem Sa.texts (ts : List (List UInt8)) (v1 v2 : Value) (R R' : Nat → Prop) (w : World) (h1 : St.Lies w R ts v1) (h2 : St.Lies w R' ts v2) :
    Calls Tryz.prog 38 #[v1, v2] w fun e w' => e = .returned (.bool true) ∧ ∃ n, w' = w.drewN n := by
  obtain ⟨a1, d1, rfl, l1, m1, x1⟩ := h1
  obtain ⟨a2, d2, rfl, l2, m2, x2⟩ := h2
  have hm : ts.length ≤ 9223372036854775807 := by unfold maxLen at m1; omega
  have X1 := Lib.hid x1
  have X2 := Lib.hid x2
  clear x1 x2
  go_enter Tryz.func38, Tryz.ntmps38
  go_wp2
  go_loopw [5] (fun i wr => ∃ j n : Nat, j ≤ ts.length ∧ i = .int .i64 (j : Int) ∧ wr = w.drewN n) (fun i _ => ts.length - (intOf i).toNat)
  case atStart => exact ⟨0, 0, Nat.zero_le _, rfl, rfl⟩
  case round =>
    obtain ⟨j, n, hj, rfl, rfl⟩ := hrel
    by_cases hlt : j < ts.length
    · obtain ⟨b1, o1, rfl, _, c1⟩ := X1.out j ts[j] (List.getElem?_eq_getElem hlt)
      obtain ⟨b2, o2, rfl, _, c2⟩ := X2.out j ts[j] (List.getElem?_eq_getElem hlt)
      generalize ts[j] = y at *
      have hd1 : j < d1 := by omega
      have hd2 : j < d2 := by omega
      go_wp2_with fail
      go_quiet (fail)
      go_wp2
      go_roundw
      case rel => exact ⟨j + 1, _, by omega, by go_num, rfl⟩
      case measure => simp [intOf]; omega
    · have e : j = ts.length := by omega
      subst e
      go_wp2
      go_ret
      exact ⟨rfl, n, rfl⟩
end Go.Proofs.YtjppobeomocgbaaGreatDoor
/-
  THE WALK of stolelaw0.SamePipe, at the same commands.
-/
namespace Go.Proofs.YtjppobeomocgbaaGreatDoor
open Go.RowKit
theorem Sa.drewN {w u : World} (h : Below w.heap.size w u) (n : Nat) : Below w.heap.size w (u.drewN n) := ⟨h.os, h.tape, h.output, h.size, h.block⟩
set_option maxRecDepth 100000 in
set_option maxHeartbeats 4000000 in
theorem Sa.pipe0 (cs : List Cm) (v1 v2 : Value) (R R' : Nat → Prop) (w : World) (h1 : Dt.Lies w R (Cm.rows cs) v1) (h2 : Dt.Lies w R' (Cm.rows cs) v2) :
    Calls Tryz.prog 20 #[v1, v2] w fun e w' => e = .returned (.bool true) ∧ Below w.heap.size w w' := by
  obtain ⟨a1, d1, rfl, l1, m1, x1⟩ := Cm.get h1
  obtain ⟨a2, d2, rfl, l2, m2, x2⟩ := Cm.get h2
  have X1 := Lib.hid x1
  have X2 := Lib.hid x2
  have hml : cs.length ≤ 9223372036854775807 := by unfold maxLen at m1; omega
  clear x1 x2 h1 h2 m1 m2
  go_enter Tryz.func20, Tryz.ntmps20
  go_wp2_with fail
  go_loopw [5] (fun iv wr => ∃ i : Nat, i ≤ cs.length ∧ iv = .int .i64 (i : Int) ∧ Hid (Below w.heap.size w wr)) (fun iv _ => cs.length - (intOf iv).toNat)
  case atStart => exact ⟨0, Nat.zero_le _, rfl, Below.refl _ _⟩
  case round =>
    obtain ⟨i, hi, rfl, HW⟩ := hrel
    by_cases hlt : i < cs.length
    · have dlt : decide ((i : Int) < (cs.length : Int)) = true := decide_eq_true (by omega)
      obtain ⟨b1, o1, av1, rfl, _, c10, c11, hl1⟩ := X1.out i cs[i] (List.getElem?_eq_getElem hlt)
      obtain ⟨b2, o2, av2, rfl, _, c20, c21, hl2⟩ := X2.out i cs[i] (List.getElem?_eq_getElem hlt)
      obtain ⟨p1, q1, rfl, g1, n1, y1⟩ := Ar.get hl1
      obtain ⟨p2, q2, rfl, g2, n2, y2⟩ := Ar.get hl2
      have hid1 : i < d1 := by omega
      have hid2 : i < d2 := by omega
      generalize cs[i] = c at *
      have Y1 := Lib.hid y1
      have Y2 := Lib.hid y2
      have hm5 : c.args.length ≤ 9223372036854775807 := by unfold maxLen at n1; omega
      have k10 := Tp.keep HW.out c10
      have k11 := Tp.keep HW.out c11
      have k20 := Tp.keep HW.out c20
      have k21 := Tp.keep HW.out c21
      clear hl1 hl2 y1 y2 n1 n2
      go_wp2_with fail
      go_quiet (fail)
      have HW2 : Hid (Below w.heap.size w (wr.drewN nq)) := ⟨HW.out.os, HW.out.tape, HW.out.output, HW.out.size, HW.out.block⟩
      generalize wr.drewN nq = wq at *
      clear k10 k11 k20 k21 HW
      go_wp2_with fail
      go_loopw [6] (fun jv wr => ∃ j : Nat, j ≤ c.args.length ∧ jv = .int .i64 (j : Int) ∧ Hid (Below w.heap.size w wr)) (fun jv _ => c.args.length - (intOf jv).toNat)
      case atStart => exact ⟨0, Nat.zero_le _, rfl, HW2⟩
      case round =>
        obtain ⟨j, hj, rfl, HV⟩ := hrel
        have k11 := Tp.keep HV.out c11
        have k21 := Tp.keep HV.out c21
        by_cases hjl : j < c.args.length
        · have dlj : decide ((j : Int) < (c.args.length : Int)) = true := decide_eq_true (by omega)
          obtain ⟨b3, o3, pv3, rfl, _, x0, x1, x2, x3, x4, hp3⟩ := Y1.out j c.args[j] (List.getElem?_eq_getElem hjl)
          obtain ⟨b4, o4, pv4, rfl, _, z0, z1, z2, z3, z4, hp4⟩ := Y2.out j c.args[j] (List.getElem?_eq_getElem hjl)
          have x0 := Tp.keep HV.out x0
          have x1 := Tp.keep HV.out x1
          have x2 := Tp.keep HV.out x2
          have x3 := Tp.keep HV.out x3
          have x4 := Tp.keep HV.out x4
          have z0 := Tp.keep HV.out z0
          have z1 := Tp.keep HV.out z1
          have z2 := Tp.keep HV.out z2
          have z3 := Tp.keep HV.out z3
          have z4 := Tp.keep HV.out z4
          have hj1 : j < q1 := by omega
          have hj2 : j < q2 := by omega
          have st := fun u q => Sa.texts c.args[j].path pv3 pv4 (fun _ => True) (fun _ => True) u (hp3.later q) (hp4.later q)
          have ST := Lib.hid st
          obtain ⟨pa, pd, rfl, _, _, _⟩ := hp3
          obtain ⟨pb, pe, rfl, _, _, _⟩ := hp4
          generalize c.args[j] = z at *
          clear st c10 c11 c20 c21
          go_wp2_with fail
          go_region_held3 (fun u => u.cell? ⟨b1, o1 + i * 2 + 1, none⟩ = some (.slice (some ⟨b3, o3, none⟩) c.args.length q1) ∧ u.cell? ⟨b2, o2 + i * 2 + 1, none⟩ = some (.slice (some ⟨b4, o4, none⟩) c.args.length q2) ∧ u.cell? ⟨b3, o3 + j * 5, none⟩ = some (.int .i64 z.kind) ∧ u.cell? ⟨b3, o3 + j * 5 + 1, none⟩ = some (.string ⟨z.name.toArray⟩) ∧ u.cell? ⟨b3, o3 + j * 5 + 2, none⟩ = some (.slice pa z.path.length pd) ∧ u.cell? ⟨b3, o3 + j * 5 + 3, none⟩ = some (.int .i64 z.num) ∧ u.cell? ⟨b3, o3 + j * 5 + 4, none⟩ = some (.string ⟨z.text.toArray⟩) ∧ u.cell? ⟨b4, o4 + j * 5, none⟩ = some (.int .i64 z.kind) ∧ u.cell? ⟨b4, o4 + j * 5 + 1, none⟩ = some (.string ⟨z.name.toArray⟩) ∧ u.cell? ⟨b4, o4 + j * 5 + 2, none⟩ = some (.slice pb z.path.length pe) ∧ u.cell? ⟨b4, o4 + j * 5 + 3, none⟩ = some (.int .i64 z.num) ∧ u.cell? ⟨b4, o4 + j * 5 + 4, none⟩ = some (.string ⟨z.text.toArray⟩)) (go_keep) (fail)
          all_goals
            go_wp2_with (go_at_call 38; refine (ST.out _ (by refine Below.alloc (Below.alloc (Below.drew HV.out) ?_ _) ?_ _ <;> (have := HV.out.size; simp; omega))).mono ?_; rintro e w1 ⟨rfl, n1, rfl⟩)
            go_roundw
            case rel => exact ⟨j + 1, by omega, by go_num, Sa.drewN (by refine Below.alloc (Below.alloc HV.out ?_ _) ?_ _ <;> (have := HV.out.size; simp; omega)) _⟩
            case measure => simp [intOf]; omega
        · have ej : j = c.args.length := by omega
          subst ej
          have dlj : decide ((c.args.length : Int) < (c.args.length : Int)) = false := decide_eq_false (by omega)
          go_wp2_with fail
          go_roundw
          case rel => exact ⟨i + 1, by omega, by go_num, HV⟩
          case measure => simp [intOf]; omega
    · have ei : i = cs.length := by omega
      subst ei
      have dlt : decide ((cs.length : Int) < (cs.length : Int)) = false := decide_eq_false (by omega)
      go_wp2_with fail
      go_ret
      exact ⟨rfl, HW.out⟩
theorem Sa.pipe (cs : List Cm) (v1 v2 : Value) (R R' : Nat → Prop) (w : World) (h1 : Dt.Lies w R (Cm.rows cs) v1) (h2 : Dt.Lies w R' (Cm.rows cs) v2) (_hn : cs.length ≤ 1048576) :
    Calls Tryz.prog 20 #[v1, v2] w fun e w' => e = .returned (.bool true) ∧ Below w.heap.size w w' := Sa.pipe0 cs v1 v2 R R' w h1 h2
end Go.Proofs.YtjppobeomocgbaaGreatDoor

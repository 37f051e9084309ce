/-
  PLAIN: an action's words, by places in its bytes.
-/
import Derived.Test.YtjppobeomocgbaaGreatDoorTGKittoLRef1
import Derived.Test.YtjppobeomocgbaaGreatDoorTLSplittoGLet
import Derived.Deep.QuietTactic
namespace Go.Proofs.YtjppobeomocgbaaGreatDoor
/-- a word -/
structure Wo where
  kind : Nat
  text : List UInt8
  path : List (List UInt8)
  num : Int
  deriving DecidableEq
/-- may a byte stand in a name (first: at its begin)? -/
def Wx.sign (first : Bool) (c : UInt8) : Bool := Pl.letter c || c == 95 || (!first && Pl.digit c)
def Wx.signs : Bool → List UInt8 → Bool
  | _, [] => true
  | f, c :: l => Wx.sign f c && Wx.signs false l
/-- a name -/
def Wx.nm (t : List UInt8) : Prop := Wx.signs true t = true ∧ t ≠ [] ∧ t.length ≤ 32
def Wx.nms (p : List (List UInt8)) : Prop := p.length ≤ 8 ∧ ∀ t ∈ p, Wx.nm t
/-- where a name ends -/
def Wx.nend : Bool → Nat → List UInt8 → Nat
  | _, i, [] => i
  | f, i, c :: l => if Wx.sign f c = true then Wx.nend false (i + 1) l else i
/-- a name at a place, and the place behind it -/
def Wx.name (S : List UInt8) (i : Nat) : Option (List UInt8 × Nat) :=
  let j := Wx.nend true i (S.drop i)
  if j = i ∨ 32 < j - i then none else some ((S.drop i).take (j - i), j)
/-- names, each behind a point -/
def Wx.names : Nat → List UInt8 → Nat → List (List UInt8) → Option (List (List UInt8) × Nat)
  | 0, _, i, out => some (out, i)
  | n + 1, S, i, out =>
    if S[i]? = some 46 then
      match Wx.name S (i + 1) with
      | none => none
      | some (t, j) => Wx.names n S j (out ++ [t])
    else some (out, i)
def Wx.path (S : List UInt8) (i : Nat) : Option (List (List UInt8) × Nat) :=
  match Wx.names (S.length + 1) S i [] with
  | none => none
  | some (p, j) => if 8 < p.length then none else some (p, j)
/-- a text behind its quote: its signs, and the place behind it -/
def Wx.text : Bool → Nat → List UInt8 → List UInt8 → Option (List UInt8 × Nat)
  | _, _, [], _ => none
  | true, i, c :: l, acc => if c = 34 ∨ c = 92 then Wx.text false (i + 1) l (acc ++ [c]) else if c = 110 then Wx.text false (i + 1) l (acc ++ [10]) else if c = 116 then Wx.text false (i + 1) l (acc ++ [9]) else none
  | false, i, c :: l, acc => if c = 34 then some (acc, i + 1) else if c = 92 then Wx.text true (i + 1) l acc else Wx.text false (i + 1) l (acc ++ [c])
/-- digits: the number (as far as it is told), and where they end -/
def Wx.digs : Nat → List UInt8 → Nat → Nat × Nat
  | i, [], x => (x, i)
  | i, c :: l, x => if Pl.digit c = true then Wx.digs (i + 1) l (if x ≤ 9007199254740991 then 10 * x + (c.toNat - 48) else x) else (x, i)
def Wx.int (S : List UInt8) (i : Nat) : Option (Int × Nat) :=
  let neg := decide (S[i]? = some 45)
  let p := if neg = true then i + 1 else i
  let r := Wx.digs p (S.drop p) 0
  if r.2 = p ∨ 9007199254740991 < r.1 then none else some (if neg = true then -(r.1 : Int) else (r.1 : Int), r.2)
/-- what an option gives, else an error -/
def Wx.or {α : Type} (o : Option α) (e : Int) : Except Int α :=
  match o with
  | none => .error e
  | some a => .ok a
/-- the word that stands at a place -/
def Wx.word (S : List UInt8) (i : Nat) : Except Int (Wo × Nat) :=
  let c := S.getD i 0
  if c = 124 then .ok (⟨5, [], [], 0⟩, i + 1)
  else if c = 58 ∧ S[i + 1]? = some 61 then .ok (⟨6, [], [], 0⟩, i + 2)
  else if c = 34 then (Wx.or (Wx.text false (i + 1) (S.drop (i + 1)) []) 1401).map fun r => (⟨4, r.1, [], 0⟩, r.2)
  else if c = 45 ∨ Pl.digit c = true then (Wx.or (Wx.int S i) 1402).map fun r => (⟨3, [], [], r.1⟩, r.2)
  else if c = 46 then
    if i + 1 < S.length ∧ Lx.blank (S.getD (i + 1) 0) = false ∧ S.getD (i + 1) 0 ≠ 124 then (Wx.or (Wx.path S i) 1400).map fun r => (⟨1, [], r.1, 0⟩, r.2)
    else .ok (⟨1, [], [], 0⟩, i + 1)
  else if c = 36 then
    match Wx.name S (i + 1) with
    | none => .error 1400
    | some (t, j) => (Wx.or (Wx.path S j) 1400).map fun r => (⟨2, t, r.1, 0⟩, r.2)
  else (Wx.or (Wx.name S i) 1400).map fun r => (⟨0, r.1, [], 0⟩, r.2)
/-- may a word end here? -/
def Wx.ends (S : List UInt8) (k : Nat) (j : Nat) : Bool := decide (k = 5) || decide (S.length ≤ j) || Lx.blank (S.getD j 0) || decide (S.getD j 0 = 124)
def Wx.go : Nat → List UInt8 → Nat → List Wo → Except Int (List Wo)
  | 0, _, _, out => .ok out
  | n + 1, S, i, out =>
    let p := Lx.skip i (S.drop i)
    if S.length ≤ p then .ok out
    else
      match Wx.word S p with
      | .error e => .error e
      | .ok (w, j) => if Wx.ends S w.kind j = true then Wx.go n S j (out ++ [w]) else .error 1400
def Wx.words (s : ByteArray) : List Wo × Int :=
  match Wx.go (s.size + 1) s.data.toList 0 [] with
  | .error e => ([], e)
  | .ok ws => (ws, 0)
end Go.Proofs.YtjppobeomocgbaaGreatDoor
/-
  PLAIN: words, arguments, commands; a pipe's reading.
-/
namespace Go.Proofs.YtjppobeomocgbaaGreatDoor
/-- a word, of whatever kind -/
structure Wi where
  kind : Int
  text : List UInt8
  path : List (List UInt8)
  num : Int
/-- an argument -/
structure Ar where
  kind : Int
  name : List UInt8
  path : List (List UInt8)
  num : Int
  text : List UInt8
/-- a command -/
structure Cm where
  fn : List UInt8
  args : List Ar
def Pi.name (t : List UInt8) : Bool := Wx.signs true t && (!t.isEmpty && decide (t.length ≤ 32))
def Pi.path (p : List (List UInt8)) : Bool := p.all Pi.name && decide (p.length ≤ 8)
def Pi.fns : List (List UInt8) := [[108, 101, 110], [105, 110, 100, 101, 120], [101, 113], [108, 116], [110, 111, 116], [97, 110, 100], [111, 114], [99, 97, 116]]
def Pi.isFn (t : List UInt8) : Bool := Pi.fns.contains t
/-- may a whole number be? -/
def Pi.small (x : Int) : Bool := decide (-9007199254740991 ≤ x) && decide (x ≤ 9007199254740991)
/-- the argument that a word is; or it is none -/
def Pi.arg (w : Wi) : Ar × Bool :=
  if w.kind = 1 then (⟨0, [], w.path, 0, []⟩, w.text.isEmpty && (decide (w.num = 0) && Pi.path w.path))
  else if w.kind = 2 then (⟨1, w.text, w.path, 0, []⟩, decide (w.num = 0) && (Pi.name w.text && Pi.path w.path))
  else if w.kind = 3 then (⟨2, [], [], w.num, []⟩, w.text.isEmpty && (w.path.isEmpty && Pi.small w.num))
  else if w.kind = 4 then (⟨3, [], [], 0, w.text⟩, decide (w.num = 0) && (w.path.isEmpty && decide (w.text.length ≤ 65536)))
  else if w.kind ≠ 0 ∨ w.num ≠ 0 ∨ w.path ≠ [] then (⟨0, [], [], 0, []⟩, false)
  else if w.text = [116, 114, 117, 101] then (⟨4, [], [], 1, []⟩, true)
  else if w.text = [102, 97, 108, 115, 101] then (⟨4, [], [], 0, []⟩, true)
  else (⟨5, [], [], 0, []⟩, decide (w.text = [110, 117, 108, 108]))
/-- arguments of words, as far as they are some -/
def Pi.args : List Wi → List Ar → Option (List Ar)
  | [], out => some out
  | w :: ws, out => if (Pi.arg w).2 = true then Pi.args ws (out ++ [(Pi.arg w).1]) else none
def Pi.command (ws : List Wi) (first : Bool) : Option Cm :=
  match ws with
  | [] => none
  | w :: rest =>
    if w.kind = 0 ∧ Pi.isFn w.text = true then
      if w.num ≠ 0 ∨ w.path ≠ [] then none else (Pi.args rest []).map (Cm.mk w.text)
    else
      match Pi.args (w :: rest) [] with
      | none => none
      | some r => if first = true ∧ r.length = 1 then some ⟨[], r⟩ else none
def Pi.bar (w : Wi) : Bool := decide (w.kind = 5) && (w.text.isEmpty && (decide (w.num = 0) && w.path.isEmpty))
def Pi.go : List Wi → List Wi → List Cm → Option (List Cm)
  | [], cur, out => (Pi.command cur out.isEmpty).map fun c => out ++ [c]
  | w :: ws, cur, out =>
    if Pi.bar w = true then
      match Pi.command cur out.isEmpty with
      | none => none
      | some c => Pi.go ws [] (out ++ [c])
    else Pi.go ws (cur ++ [w]) out
def Pi.parse (ws : List Wi) : List Cm × Int :=
  match Pi.go ws [] [] with
  | none => ([], 1500)
  | some cs => if (cs.any fun c => decide (8 < c.args.length)) = true ∨ 8 < cs.length then ([], 1501) else (cs, 0)
def Pi.argMay (a : Ar) : Bool :=
  if a.kind ≠ 3 ∧ a.text ≠ [] ∨ a.kind ≠ 1 ∧ a.name ≠ [] ∨ a.kind ≠ 2 ∧ a.kind ≠ 4 ∧ a.num ≠ 0 ∨ a.kind ≠ 0 ∧ a.kind ≠ 1 ∧ a.path ≠ [] then false
  else if a.kind = 0 ∨ a.kind = 5 then Pi.path a.path
  else if a.kind = 1 then Pi.name a.name && Pi.path a.path
  else if a.kind = 2 then Pi.small a.num
  else if a.kind = 3 then decide (a.text.length ≤ 65536)
  else if a.kind = 4 then decide (a.num = 0) || decide (a.num = 1)
  else false
def Pi.cmdMay (i : Nat) (c : Cm) : Bool := (Pi.isFn c.fn || (c.fn.isEmpty && (decide (i = 0) && decide (c.args.length = 1)))) && (decide (c.args.length ≤ 8) && c.args.all Pi.argMay)
def Pi.rowMay : Nat → List Cm → Bool
  | _, [] => true
  | i, c :: cs => Pi.cmdMay i c && Pi.rowMay (i + 1) cs
def Pi.may (p : List Cm) : Bool := Pi.rowMay 0 p && (decide (1 ≤ p.length) && decide (p.length ≤ 8))
end Go.Proofs.YtjppobeomocgbaaGreatDoor
/-
  ROWS OF TEXTS IN MEMORY.
-/
namespace Go.Proofs.YtjppobeomocgbaaGreatDoor
open Go.RowKit
theorem St.info : (Tryz.prog.info? 9).map (fun i => (i.zero, i.size, i.bytes)) = some (some (.string ⟨#[]⟩), 1, 16) := by kernel_rfl
def St.cells (ts : List (List UInt8)) : List Value := ts.map fun t => .string ⟨t.toArray⟩
theorem St.cells_snoc (ts : List (List UInt8)) (t : List UInt8) : St.cells (ts ++ [t]) = St.cells ts ++ [.string ⟨t.toArray⟩] := by simp [St.cells]
theorem St.ones (t : ByteArray) : ∀ u ∈ [Value.string t], u.oneCell' = true := by
  intro u hu
  rw [List.mem_singleton.1 hu]
  rfl
theorem St.cell1 (W : World) (t : ByteArray) : ∀ (j : Nat) (u : Value), [Value.string t][j]? = some u → (W.alloc (.cells #[.string t] 9)).cell? ⟨W.heap.size, j, none⟩ = some u := by
  intro j u hj
  unfold World.cell?
  rw [show (W.alloc (.cells #[.string t] 9)).heap[W.heap.size]? = some _ from heap_alloc_new W _]
  simpa using hj
/-- texts lie in a block of R -/
def St.Lies (w : World) (R : Nat → Prop) (ts : List (List UInt8)) (v : Value) : Prop :=
  ∃ a d, v = .slice a ts.length d ∧ ts.length ≤ d ∧ d ≤ maxLen ∧ ∀ j t, ts[j]? = some t → ∃ b o, a = some ⟨b, o, none⟩ ∧ R b ∧ w.cell? ⟨b, o + j, none⟩ = some (.string ⟨t.toArray⟩)
theorem St.Lies.on {w w' : World} {R R' : Nat → Prop} {ts : List (List UInt8)} {v : Value} (h : St.Lies w R ts v) (hR : ∀ k, R k → R' k ∧ w'.heap[k]? = w.heap[k]?) : St.Lies w' R' ts v := by
  obtain ⟨a, d, e, h1, h2, hx⟩ := h
  refine ⟨a, d, e, h1, h2, fun i t hi => ?_⟩
  obtain ⟨b, o, ea, hb, c0⟩ := hx i t hi
  obtain ⟨hb', hw⟩ := hR b hb
  exact ⟨b, o, ea, hb', (World.cell?_of_block (a := ⟨b, o + i, none⟩) hw).trans c0⟩
theorem St.Lies.nil (w : World) (R : Nat → Prop) : St.Lies w R [] (.slice none 0 0) := ⟨none, 0, rfl, Nat.le_refl _, Nat.zero_le _, fun j x h => by simp at h⟩
theorem St.Lies.own {w : World} {base : Nat} {ts : List (List UInt8)} {v : Value} (h : w.ownsRow base 9 1 v ts.length (St.cells ts)) : St.Lies w (fun k => base ≤ k ∧ k < w.heap.size ∧ Rm.Ub w k) ts v := by
  have hc := fun g hg => h.cells (g := g) hg
  have hlt := h.lt
  have hub : ∀ k, v.ownBlock = some k → Rm.Ub w k := fun k hk => Rm.Ub.own h hk
  rcases h.2 with ⟨rfl, hn⟩ | ⟨g, cap, cur, rfl, hbg, hg, hnc, hcm, hcs, htake⟩
  · have : ts = [] := List.eq_nil_of_length_eq_zero hn
    subst this
    exact St.Lies.nil _ _
  · refine ⟨some ⟨g, 0, none⟩, cap, rfl, hnc, hcm, fun j x hj => ?_⟩
    have c1 := hc g rfl j (.string ⟨x.toArray⟩) (by unfold St.cells; rw [List.getElem?_map, hj]; rfl)
    rw [Ro.add] at c1
    exact ⟨g, 0, rfl, ⟨(hlt g rfl).1, (hlt g rfl).2, hub g rfl⟩, c1⟩
end Go.Proofs.YtjppobeomocgbaaGreatDoor
/-
  THE WALKS of the reference's NameMay, pathMay, Function.
-/
namespace Go.Proofs.YtjppobeomocgbaaGreatDoor
open Go.RowKit
theorem Pi.signs_step {s : ByteArray} {i : Nat} (h : i < s.size) : Wx.signs (decide (i = 0)) (s.data.toList.drop i) = (Wx.sign (decide (i = 0)) s[i] && Wx.signs (decide (i + 1 = 0)) (s.data.toList.drop (i + 1))) := by
  rw [Rl.drop s i h, Wx.signs, decide_eq_false (show ¬ i + 1 = 0 by omega)]
set_option maxRecDepth 100000 in
set_option maxHeartbeats 4000000 in
theorem Pr.name (s : ByteArray) (w : World) (hs : s.size ≤ 4611686018427387904) : Calls Tryz.prog 165 #[.string s] w fun e w' => e = .returned (.bool (Pi.name s.data.toList)) ∧ w' = w := by
  obtain ⟨B, hB⟩ : ∃ B, Pi.name s.data.toList = B := ⟨_, rfl⟩
  rw [hB]
  have HB := Lib.hid hB
  clear hB
  go_enter Tryz.func165, Tryz.ntmps165
  go_wp2_with fail
  go_loopw [3] (fun iv wr => ∃ i : Nat, i ≤ s.size ∧ iv = .int .i64 (i : Int) ∧ Hid (Wx.signs true s.data.toList = Wx.signs (decide (i = 0)) (s.data.toList.drop i)) ∧ wr = w) (fun iv _ => s.size - (intOf iv).toNat)
  case atStart => exact ⟨0, Nat.zero_le _, rfl, rfl, rfl⟩
  case round =>
    obtain ⟨i, hi, rfl, HS, hw⟩ := hrel
    have hw := hw.symm
    subst hw
    by_cases hlt : i < s.size
    · have d1 : decide ((i : Int) < (s.size : Int)) = true := decide_eq_true (by omega)
      have hst := HS.out.trans (Pi.signs_step hlt)
      have let1 := fun u => Rt.letter s[i] u
      have dig1 := fun u => Rt.digit s[i] u
      unfold Wx.sign at hst
      have HST := Lib.hid hst
      clear HS hst
      generalize Pl.letter s[i] = bl at *
      generalize Pl.digit s[i] = bd at *
      have HOK : Hid (∀ q : Bool, q = true → Wx.signs true s.data.toList = (q && Wx.signs (decide (i + 1 = 0)) (s.data.toList.drop (i + 1))) → Wx.signs true s.data.toList = Wx.signs (decide (i + 1 = 0)) (s.data.toList.drop (i + 1))) := fun q hq h => by rw [h, hq]; rfl
      have HNO : Hid (∀ q : Bool, q = false → Wx.signs true s.data.toList = (q && Wx.signs (decide (i + 1 = 0)) (s.data.toList.drop (i + 1))) → B = false) := fun q hq h => by rw [← HB.out, Pi.name, h, hq]; rfl
      cases bl with
      | true =>
        have HN := Lib.hid (HOK.out _ rfl HST.out)
        clear HST HOK HNO
        go_wp2_with (first | (go_at_call 119; refine (let1 _).mono ?_; rintro e w' ⟨rfl, hw⟩; have hw := hw.symm; subst hw) | (go_at_call 90; refine (dig1 _).mono ?_; rintro e w' ⟨rfl, hw⟩; have hw := hw.symm; subst hw))
        go_roundw
        case rel => exact ⟨i + 1, by omega, by go_num, HN, by first | rfl | trivial⟩
        case measure => simp [intOf]; omega
      | false =>
        by_cases h95 : s[i] = 95
        · have t95 : ((s[i].toNat : Int) == 95) = true := Tp.eq_true (d := 95) h95
          have t95b : ((s[i].toNat : Int) != 95) = false := by rw [bne, t95]; rfl
          have HN := Lib.hid (HOK.out _ (by rw [h95]; rfl) HST.out)
          clear HST HOK HNO h95
          go_wp2_with (first | (go_at_call 119; refine (let1 _).mono ?_; rintro e w' ⟨rfl, hw⟩; have hw := hw.symm; subst hw) | (go_at_call 90; refine (dig1 _).mono ?_; rintro e w' ⟨rfl, hw⟩; have hw := hw.symm; subst hw))
          go_roundw
          case rel => exact ⟨i + 1, by omega, by go_num, HN, by first | rfl | trivial⟩
          case measure => simp [intOf]; omega
        · have t95 : ((s[i].toNat : Int) == 95) = false := Tp.eq_false (d := 95) h95
          have t95b : ((s[i].toNat : Int) != 95) = true := by rw [bne, t95]; rfl
          have hne : (s[i] == 95) = false := beq_eq_false_iff_ne.2 h95
          by_cases hi0 : i = 0
          · subst hi0
            have hB : B = false := HNO.out _ (by rw [hne]; rfl) HST.out
            subst hB
            clear HST HOK HNO h95 hne
            go_wp2_with (first | (go_at_call 119; refine (let1 _).mono ?_; rintro e w' ⟨rfl, hw⟩; have hw := hw.symm; subst hw) | (go_at_call 90; refine (dig1 _).mono ?_; rintro e w' ⟨rfl, hw⟩; have hw := hw.symm; subst hw))
            go_ret
            exact ⟨rfl, rfl⟩
          · have t0 : ((i : Int) == 0) = false := beq_eq_false_iff_ne.2 (by omega)
            have hdf : decide (i = 0) = false := decide_eq_false hi0
            cases bd with
            | true =>
              have HN := Lib.hid (HOK.out _ (by rw [hne, hdf]; rfl) HST.out)
              clear HST HOK HNO h95 hne hdf
              go_wp2_with (first | (go_at_call 119; refine (let1 _).mono ?_; rintro e w' ⟨rfl, hw⟩; have hw := hw.symm; subst hw) | (go_at_call 90; refine (dig1 _).mono ?_; rintro e w' ⟨rfl, hw⟩; have hw := hw.symm; subst hw))
              go_roundw
              case rel => exact ⟨i + 1, by omega, by go_num, HN, by first | rfl | trivial⟩
              case measure => simp [intOf]; omega
            | false =>
              have hB : B = false := HNO.out _ (by rw [hne, hdf]; rfl) HST.out
              subst hB
              clear HST HOK HNO h95 hne hdf
              go_wp2_with (first | (go_at_call 119; refine (let1 _).mono ?_; rintro e w' ⟨rfl, hw⟩; have hw := hw.symm; subst hw) | (go_at_call 90; refine (dig1 _).mono ?_; rintro e w' ⟨rfl, hw⟩; have hw := hw.symm; subst hw))
              go_ret
              exact ⟨rfl, rfl⟩
    · have d1 : decide ((i : Int) < (s.size : Int)) = false := decide_eq_false (by omega)
      have hsg : Wx.signs true s.data.toList = true := by
        rw [HS.out, List.drop_of_length_le (by rw [Wk.len_data]; omega)]
        cases decide (i = 0) <;> rfl
      have hB : (!s.data.toList.isEmpty && decide (s.data.toList.length ≤ 32)) = B := by rw [← HB.out, Pi.name, hsg]; rfl
      clear HS HB hsg
      cases he : s.data.toList with
      | nil =>
        have e : s = ⟨#[]⟩ := WideShapes.bytes_inj he
        subst e
        have hB2 : false = B := hB
        subst hB2
        clear hB he
        go_wp2_with fail
        go_ret
        exact ⟨rfl, rfl⟩
      | cons c l =>
        have n1 : (s.toList != []) = true := by rw [ByteArray.toList_eq, he]; rfl
        have n2 : (s.toList == []) = false := by rw [ByteArray.toList_eq, he]; rfl
        have n3 : s.toList.isEmpty = false := by rw [ByteArray.toList_eq, he]; rfl
        rw [Wk.len_data, he] at hB
        by_cases h32 : s.size ≤ 32
        · have d2 : decide ((s.size : Int) ≤ 32) = true := decide_eq_true (by omega)
          have d2n : decide (s.size ≤ 32) = true := decide_eq_true h32
          have hB2 : true = B := by rw [← hB, d2n]; rfl
          subst hB2
          clear hB he
          go_wp2_with fail
          go_ret
          exact ⟨rfl, rfl⟩
        · have d2 : decide ((s.size : Int) ≤ 32) = false := decide_eq_false (by omega)
          have d2n : decide (s.size ≤ 32) = false := decide_eq_false h32
          have hB2 : false = B := by rw [← hB, d2n]; rfl
          subst hB2
          clear hB he
          go_wp2_with fail
          go_ret
          exact ⟨rfl, rfl⟩
end Go.Proofs.YtjppobeomocgbaaGreatDoor
/-
  THE WALKS of the reference's pathMay, Function, pipeWord.
-/
namespace Go.Proofs.YtjppobeomocgbaaGreatDoor
open Go.RowKit
theorem Pi.all_step {p : List (List UInt8)} {i : Nat} (h : i < p.length) : (p.drop i).all Pi.name = (Pi.name p[i] && (p.drop (i + 1)).all Pi.name) := by
  rw [List.drop_eq_getElem_cons h, List.all_cons]
set_option maxRecDepth 100000 in
set_option maxHeartbeats 2000000 in
theorem Pr.path (p : List (List UInt8)) (v : Value) (R : Nat → Prop) (w : World) (h : St.Lies w R p v) (hz : ∀ t ∈ p, t.length ≤ 4611686018427387904) : Calls Tryz.prog 164 #[v] w fun e w' => e = .returned (.bool (Pi.path p)) ∧ w' = w := by
  obtain ⟨a, d, rfl, hd, hm, hx⟩ := h
  have hml : p.length ≤ 9223372036854775807 := by unfold maxLen at hm; omega
  obtain ⟨B, hB⟩ : ∃ B, Pi.path p = B := ⟨_, rfl⟩
  rw [hB]
  have HB := Lib.hid hB
  have HX := Lib.hid hx
  have HZ := Lib.hid hz
  clear hB hx hz hm
  go_enter Tryz.func164, Tryz.ntmps164
  go_wp2_with fail
  go_loopw [3] (fun iv wr => ∃ i : Nat, i ≤ p.length ∧ iv = .int .i64 (i : Int) ∧ Hid (p.all Pi.name = (p.drop i).all Pi.name) ∧ wr = w) (fun iv _ => p.length - (intOf iv).toNat)
  case atStart => exact ⟨0, Nat.zero_le _, rfl, rfl, rfl⟩
  case round =>
    obtain ⟨i, hi, rfl, HS, hw⟩ := hrel
    have hw := hw.symm
    subst hw
    by_cases hlt : i < p.length
    · have d1 : decide ((i : Int) < (p.length : Int)) = true := decide_eq_true (by omega)
      have hid : i < d := by omega
      obtain ⟨b, o, rfl, _, c⟩ := HX.out i p[i] (List.getElem?_eq_getElem hlt)
      have nm := fun u => Pr.name ⟨p[i].toArray⟩ u (by show p[i].toArray.size ≤ _; rw [List.size_toArray]; exact HZ.out _ (List.getElem_mem hlt))
      have hst := HS.out.trans (Pi.all_step hlt)
      have HST := Lib.hid hst
      have e1 : (⟨p[i].toArray⟩ : ByteArray).data.toList = p[i] := rfl
      rw [e1] at nm
      clear HS hst HX HZ e1
      generalize (⟨p[i].toArray⟩ : ByteArray) = y at *
      cases hn : Pi.name p[i] with
      | true =>
        have HN : Hid (p.all Pi.name = (p.drop (i + 1)).all Pi.name) := by unfold Hid; rw [HST.out, hn]; rfl
        rw [hn] at nm
        clear HST hn
        go_wp2_with (go_at_call 165; refine (nm _).mono ?_; rintro e w' ⟨rfl, hw⟩; have hw := hw.symm; subst hw)
        go_roundw
        case rel => exact ⟨i + 1, by omega, by go_num, HN, by first | rfl | trivial⟩
        case measure => simp [intOf]; omega
      | false =>
        have hB : B = false := by rw [← HB.out, Pi.path, HST.out, hn]; rfl
        subst hB
        rw [hn] at nm
        clear HST hn
        go_wp2_with (go_at_call 165; refine (nm _).mono ?_; rintro e w' ⟨rfl, hw⟩; have hw := hw.symm; subst hw)
        go_ret
        exact ⟨rfl, rfl⟩
    · have d1 : decide ((i : Int) < (p.length : Int)) = false := decide_eq_false (by omega)
      have hB : decide (p.length ≤ 8) = B := by
        rw [← HB.out, Pi.path, HS.out, List.drop_of_length_le (by omega)]
        rfl
      have d2 : decide ((p.length : Int) ≤ 8) = B := by rw [← hB]; exact decide_eq_decide.2 (by omega)
      clear HS HB HX HZ
      go_wp2_with fail
      go_ret
      first | exact ⟨by rw [hB], rfl⟩ | exact ⟨rfl, rfl⟩
theorem Pi.isFn_eq (s : ByteArray) : Pi.isFn s.data.toList = (s.toList == [108, 101, 110] || (s.toList == [105, 110, 100, 101, 120] || (s.toList == [101, 113] || (s.toList == [108, 116] || (s.toList == [110, 111, 116] || (s.toList == [97, 110, 100] || (s.toList == [111, 114] || (s.toList == [99, 97, 116])))))))) := by
  unfold Pi.isFn Pi.fns
  rw [ByteArray.toList_eq]
  simp only [List.contains_cons, List.contains_nil, Bool.or_false]
set_option maxRecDepth 100000 in
set_option maxHeartbeats 2000000 in
theorem Pr.fn (s : ByteArray) (w : World) : Calls Tryz.prog 142 #[.string s] w fun e w' => e = .returned (.bool (Pi.isFn s.data.toList)) ∧ w' = w := by
  rw [Pi.isFn_eq]
  cases t0 : (s.toList == [108, 101, 110]) with
  | true =>
    go_enter Tryz.func142, Tryz.ntmps142
    go_wp2_with fail
    go_ret
    exact ⟨rfl, rfl⟩
  | false =>
    cases t1 : (s.toList == [105, 110, 100, 101, 120]) with
    | true =>
      go_enter Tryz.func142, Tryz.ntmps142
      go_wp2_with fail
      go_ret
      exact ⟨rfl, rfl⟩
    | false =>
      cases t2 : (s.toList == [101, 113]) with
      | true =>
        go_enter Tryz.func142, Tryz.ntmps142
        go_wp2_with fail
        go_ret
        exact ⟨rfl, rfl⟩
      | false =>
        cases t3 : (s.toList == [108, 116]) with
        | true =>
          go_enter Tryz.func142, Tryz.ntmps142
          go_wp2_with fail
          go_ret
          exact ⟨rfl, rfl⟩
        | false =>
          cases t4 : (s.toList == [110, 111, 116]) with
          | true =>
            go_enter Tryz.func142, Tryz.ntmps142
            go_wp2_with fail
            go_ret
            exact ⟨rfl, rfl⟩
          | false =>
            cases t5 : (s.toList == [97, 110, 100]) with
            | true =>
              go_enter Tryz.func142, Tryz.ntmps142
              go_wp2_with fail
              go_ret
              exact ⟨rfl, rfl⟩
            | false =>
              cases t6 : (s.toList == [111, 114]) with
              | true =>
                go_enter Tryz.func142, Tryz.ntmps142
                go_wp2_with fail
                go_ret
                exact ⟨rfl, rfl⟩
              | false =>
                cases t7 : (s.toList == [99, 97, 116]) with
                | true =>
                  go_enter Tryz.func142, Tryz.ntmps142
                  go_wp2_with fail
                  go_ret
                  exact ⟨rfl, rfl⟩
                | false =>
                  go_enter Tryz.func142, Tryz.ntmps142
                  go_wp2_with fail
                  go_ret
                  exact ⟨rfl, rfl⟩
end Go.Proofs.YtjppobeomocgbaaGreatDoor
/-
  THE WALK of the reference's argMay (gen15/genargmay.py).
-/
namespace Go.Proofs.YtjppobeomocgbaaGreatDoor
open Go.RowKit
theorem St.Lies.boxed {w : World} {R : Nat → Prop} {ts : List (List UInt8)} {v : Value} (h : St.Lies w R ts v) (o : Obj) : St.Lies (w.alloc o) (fun _ => True) ts v := by
  obtain ⟨a, d, e, h1, h2, hx⟩ := h
  refine ⟨a, d, e, h1, h2, fun i t hi => ?_⟩
  obtain ⟨b, q, ea, _, c0⟩ := hx i t hi
  exact ⟨b, q, ea, trivial, Tp.keep ((Below.refl _ _).alloc (Nat.le_refl _) o) c0⟩
theorem Pr.boxed (w : World) (o : Obj) : Below w.heap.size w (w.alloc o) := (Below.refl _ _).alloc (Nat.le_refl _) o
end Go.Proofs.YtjppobeomocgbaaGreatDoor

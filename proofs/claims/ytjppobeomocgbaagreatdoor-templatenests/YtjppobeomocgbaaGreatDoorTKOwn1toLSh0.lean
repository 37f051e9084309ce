/-
  ROWS OF COMMANDS whose paths are copied one by one.
-/
import Derived.Test.YtjppobeomocgbaaGreatDoorTKRow2toNTop
import Derived.Test.YtjppobeomocgbaaGreatDoorTGSpoiltoKArg
import Derived.Laws.OwnMore
import Derived.Shelf.Strings.Replace
import Derived.Shelf.Strings.Cut
import Derived.Shelf.Strings.SlTrimAscii
import Derived.Shelf.Small.Wraps
import Derived.Shelf.Strings.Prefix
import Derived.Shelf.Strconv.Clone
import Derived.Test.YtjppobeomocgbaaGreatDoorProg
namespace Go.Proofs.YtjppobeomocgbaaGreatDoor
open Go.RowKit
/-- a value written over itself -/
theorem Ko.same {w : World} {g j : Nat} {u : Value} (h : w.cell? ⟨g, j, none⟩ = some u) : w.setCell ⟨g, j, none⟩ u = w := by
  have e : (w.setCell ⟨g, j, none⟩ u).heap = w.heap := by
    unfold World.setCell
    refine Array.ext_getElem? fun k => ?_
    rw [Array.getElem?_modify]
    by_cases hk : g = k
    · subst hk
      rw [if_pos rfl]
      unfold World.cell? at h
      cases hh : w.heap[g]? with
      | none => rfl
      | some o =>
        rw [hh] at h
        cases o with
        | cells cs ty fz =>
          simp only at h
          have h2 : cs[j]? = some u := by simpa using h
          simp only [Option.map_some, Option.isSome_none, Bool.false_eq_true, if_false]
          congr 2
          refine Array.ext_getElem? fun q => ?_
          rw [Array.getElem?_setIfInBounds]
          by_cases hq : j = q
          · subst hq
            rw [if_pos rfl, h2]
            have := (Array.getElem?_eq_some_iff.1 h2).1
            simp [this]
          · rw [if_neg hq]
        | _ => rfl
    · rw [if_neg hk]
  rw [show w.setCell ⟨g, j, none⟩ u = { w with heap := (w.setCell ⟨g, j, none⟩ u).heap } from rfl, e]
def Ko.New (u0 W : World) (b : Nat) : Prop := u0.heap.size ≤ b ∧ b < W.heap.size ∧ Rm.Ub W b
theorem Ko.New.lies {u0 W W' : World} {p : List (List UInt8)} {pv : Value} (h : St.Lies W (Ko.New u0 W) p pv) (hs : W.heap.size ≤ W'.heap.size) (hb : ∀ b, u0.heap.size ≤ b → b < W.heap.size → W'.heap[b]? = W.heap[b]?) : St.Lies W' (Ko.New u0 W') p pv :=
  h.on fun b hk => by
    have e := hb b hk.1 hk.2.1
    exact ⟨⟨hk.1, Nat.lt_of_lt_of_le hk.2.1 hs, hk.2.2.on e⟩, e⟩
/-- paths ahead of place (i, n) are copied, the others still the input's -/
def Ko.P (w0 u0 W : World) (i n : Nat) : Nat → Nat → List (List UInt8) → Value → Prop := fun k m p pv => if k < i ∨ k = i ∧ m < n then St.Lies W (Ko.New u0 W) p pv else St.Lies w0 (fun _ => True) p pv
structure Ko.St (w0 u0 W : World) (base : Nat) (cs : List Cm) (v : Value) (xs : List Value) (av : Nat → Value) (ys : Nat → List Value) (i n : Nat) : Prop where
  rows : Kr.Cmds W base (Ko.P w0 u0 W i n) cs v xs av ys
  lt : ∀ b, v.ownBlock = some b → b < u0.heap.size
  alt : ∀ k, k < cs.length → ∀ b, (av k).ownBlock = some b → b < u0.heap.size
  low : Below base u0 W
  le : base ≤ u0.heap.size
section
variable {w0 u0 W W' : World} {base i n : Nat} {cs : List Cm} {v : Value} {xs : List Value} {av : Nat → Value} {ys : Nat → List Value}
theorem Ko.St.start (hle : base ≤ u0.heap.size) (h : Kr.Cmds u0 base (fun _ _ => St.Lies w0 (fun _ => True)) cs v xs av ys) : Ko.St w0 u0 u0 base cs v xs av ys 0 0 :=
  ⟨h.imp fun k c m p pv _ _ hp => by
    unfold Ko.P
    rw [if_neg (by omega)]
    exact hp, fun b hb => (h.own.lt b hb).2, fun k hk b hb => ((h.args k cs[k] (List.getElem?_eq_getElem hk)).own.lt b hb).2, Below.refl _ _, hle⟩
theorem Ko.P.on {k m : Nat} {p : List (List UInt8)} {pv : Value} (h : Ko.P w0 u0 W i n k m p pv) (hs : W.heap.size ≤ W'.heap.size) (hb : ∀ b, u0.heap.size ≤ b → b < W.heap.size → W'.heap[b]? = W.heap[b]?) : Ko.P w0 u0 W' i n k m p pv := by
  unfold Ko.P at h ⊢
  split at h
  · rename_i q
    rw [if_pos q]
    exact Ko.New.lies h hs hb
  · rename_i q
    rw [if_neg q]
    exact h
theorem Ko.St.below (h : Ko.St w0 u0 W base cs v xs av ys i n) (hb : Below W.heap.size W W') : Ko.St w0 u0 W' base cs v xs av ys i n :=
  ⟨(h.rows.below hb).imp fun _ _ _ _ _ _ _ hp => hp.on hb.size fun b _ h2 => hb.block b h2, h.lt, h.alt, h.low.trans (hb.mono (Nat.le_trans h.le h.low.size)), h.le⟩
/-- a command whose arguments are done -/
theorem Ko.St.next (h : Ko.St w0 u0 W base cs v xs av ys i n) {c : Cm} (hc : cs[i]? = some c) (hn : c.args.length ≤ n) : Ko.St w0 u0 W base cs v xs av ys (i + 1) 0 :=
  ⟨h.rows.imp fun k c2 m p pv hk hm hp => by
    unfold Ko.P at hp ⊢
    by_cases q : k < i ∨ k = i ∧ m < n
    · rw [if_pos q] at hp
      rw [if_pos (by omega)]
      exact hp
    · rw [if_neg q] at hp
      rw [if_neg]
      · exact hp
      · intro q2
        have hki : k = i := by omega
        subst hki
        have : c = c2 := Option.some.inj (hc.symm.trans hk)
        subst this
        exact q (.inr ⟨rfl, by omega⟩), h.lt, h.alt, h.low, h.le⟩
/-- a path more is copied -/
theorem Ko.St.path (h : Ko.St w0 u0 W base cs v xs av ys i n) {c : Cm} {x : Ar} {ab cap len : Nat} {pv : Value} (hc : cs[i]? = some c) (hx : c.args[n]? = some x) (ha : av i = .slice (some ⟨ab, 0, none⟩) len cap) (hl : len = c.args.length) (hp : St.Lies W (Ko.New u0 W) x.path pv) :
    Ko.St w0 u0 (W.setCell ⟨ab, n * 5 + 2, none⟩ pv) base cs v xs av (fun k => if k = i then (ys i).set (n * 5 + 2) pv else ys k) i (n + 1) := by
  have hil := (List.getElem?_eq_some_iff.1 hc).1
  have hab : (av i).ownBlock = some ab := by rw [ha]; rfl
  have hlt := h.alt i hil ab hab
  have hbl : base ≤ ab := ((h.rows.args i c hc).own.lt ab hab).1
  have hot : ∀ b, b ≠ ab → (W.setCell ⟨ab, n * 5 + 2, none⟩ pv).heap[b]? = W.heap[b]? := fun b hne => Below.heap_setCell _ _ _ _ (by show b ≠ ab; exact hne)
  have hsz : (W.setCell ⟨ab, n * 5 + 2, none⟩ pv).heap.size = W.heap.size := by simp
  have hnew : ∀ {p : List (List UInt8)} {q : Value}, St.Lies W (Ko.New u0 W) p q → St.Lies (W.setCell ⟨ab, n * 5 + 2, none⟩ pv) (Ko.New u0 (W.setCell ⟨ab, n * 5 + 2, none⟩ pv)) p q := fun hq => Ko.New.lies hq (by omega) fun b h1 _ => hot b (by omega)
  refine ⟨⟨Rm.own_on h.rows.own (fun b hb => hot b (fun e => h.rows.apart i hil ab hab (by rw [← e]; exact hb))), h.rows.cell, fun k c2 hk => ?_, h.rows.apart, h.rows.apart2⟩, h.lt, h.alt, h.low.setCell (by exact hbl) _, h.le⟩
  have hkl := (List.getElem?_eq_some_iff.1 hk).1
  have hr := h.rows.args k c2 hk
  by_cases hki : k = i
  · subst hki
    rw [if_pos rfl]
    have hcc : c = c2 := Option.some.inj (hc.symm.trans hk)
    subst hcc
    have hown := hr.own
    rw [ha, ← hl] at hown
    have hst := (hown.stored (n * 5 + 2) pv).1
    refine ⟨by rw [ha, ← hl]; exact hst, fun m y hm => ?_⟩
    obtain ⟨q, h1, h2⟩ := hr.arg m y hm
    have hylen : (ys k).length = c.args.length * 5 := hr.own.1
    by_cases hmn : m = n
    · subst hmn
      have : x = y := Option.some.inj (hx.symm.trans hm)
      subst this
      refine ⟨pv, ?_, fun r u hu => ?_⟩
      · unfold Ko.P
        rw [if_pos (.inr ⟨rfl, by omega⟩)]
        exact hnew hp
      · have hml := (List.getElem?_eq_some_iff.1 hm).1
        match r, hu with
        | 0, hu => rw [List.getElem?_set_ne (by omega)]; exact h2 0 u hu
        | 1, hu => rw [List.getElem?_set_ne (by omega)]; exact h2 1 u hu
        | 2, hu =>
          have hu : pv = u := Option.some.inj hu
          subst hu
          rw [List.getElem?_set_self (by omega)]
        | 3, hu => rw [List.getElem?_set_ne (by omega)]; exact h2 3 u hu
        | 4, hu => rw [List.getElem?_set_ne (by omega)]; exact h2 4 u hu
    · refine ⟨q, ?_, fun r u hu => ?_⟩
      · unfold Ko.P at h1 ⊢
        by_cases q1 : m < n
        · rw [if_pos (.inr ⟨rfl, q1⟩)] at h1
          rw [if_pos (.inr ⟨rfl, by omega⟩)]
          exact hnew h1
        · rw [if_neg (by omega)] at h1
          rw [if_neg (by omega)]
          exact h1
      · have hr5 : r < 5 := (List.getElem?_eq_some_iff.1 hu).1
        rw [List.getElem?_set_ne (by omega)]
        exact h2 r u hu
  · rw [if_neg hki]
    refine ((hr.on fun b hb => hot b fun e => ?_)).imp fun m p q _ hq => ?_
    · subst e
      exact h.rows.apart2 k i hkl hil hki b hb hab
    · unfold Ko.P at hq ⊢
      by_cases q1 : k < i
      · rw [if_pos (.inl q1)] at hq
        rw [if_pos (.inl q1)]
        exact hnew hq
      · rw [if_neg (by omega)] at hq
        rw [if_neg (by omega)]
        exact hq
/-- all is copied -/
theorem Ko.St.fin (h : Ko.St w0 u0 W base cs v xs av ys i 0) (hi : cs.length ≤ i) (hb : w0.heap.size ≤ base) : Dt.Lies W (fun b => w0.heap.size ≤ b ∧ b < W.heap.size ∧ Rm.Ub W b) (Cm.rows cs) v := by
  refine Kr.Cmds.lies (base := base) (xs := xs) (av := av) (ys := ys) (h.rows.imp fun k c m p pv hk _ hp => ?_) fun b h1 h2 h3 => ⟨by omega, h2, h3⟩
  have hkl := (List.getElem?_eq_some_iff.1 hk).1
  unfold Ko.P at hp
  rw [if_pos (.inl (by omega))] at hp
  exact hp.on fun b hq => ⟨⟨by have := hq.1; have := h.le; omega, hq.2.1, hq.2.2⟩, rfl⟩
theorem Kr.len {W : World} {b0 : Nat} {e : TypeId} {k n : Nat} {v : Value} {xs : List Value} (h : W.ownsRow b0 e k v n xs) : n ≤ maxLen := by
  rcases h.2 with ⟨_, rfl⟩ | ⟨b, cap, cur, rfl, hbg, hg, hnc, hcm, hcs, htake⟩
  · exact Nat.zero_le _
  · omega
/-- the commands' row, as the walk reads it -/
theorem Ko.St.vform {a : Option Addr} {d : Nat} (h : Ko.St w0 u0 W base cs (.slice a cs.length d) xs av ys i n) (hi : 0 < cs.length) : ∃ vb, a = some ⟨vb, 0, none⟩ ∧ cs.length ≤ d ∧ (∀ q, W.frozen? ⟨vb, q, none⟩ = false) ∧ (∀ k c, cs[k]? = some c → W.cell? ⟨vb, k * 2, none⟩ = some (.string ⟨c.fn.toArray⟩) ∧ W.cell? ⟨vb, k * 2 + 1, none⟩ = some (av k)) := by
  have hce := fun g hg => h.rows.own.cells (g := g) hg
  have hub := fun b hb => Rm.Ub.own h.rows.own (k := b) hb
  rcases h.rows.own.2 with ⟨e, hn⟩ | ⟨b, cap, cur, e, hbg, hg, hnc, hcm, hcs, htake⟩
  · omega
  · injection e with e1 e2 e3
    subst e1 e3
    refine ⟨b, rfl, hnc, hub b rfl, fun k c hk => ?_⟩
    obtain ⟨c0, c1⟩ := h.rows.cell k c hk
    have q0 := hce b rfl _ _ c0
    have q1 := hce b rfl _ _ c1
    rw [Ro.add, Nat.zero_add] at q0 q1
    exact ⟨q0, q1⟩
/-- a row of arguments, as the walk reads it -/
theorem Ko.St.aform (h : Ko.St w0 u0 W base cs v xs av ys i n) {c : Cm} {k : Nat} {a : Option Addr} {d : Nat} (hc : cs[k]? = some c) (ha : av k = .slice a c.args.length d) (hn : 0 < c.args.length) : ∃ ab, a = some ⟨ab, 0, none⟩ ∧ c.args.length ≤ d ∧ (∀ q, W.frozen? ⟨ab, q, none⟩ = false) ∧ (∀ m x, c.args[m]? = some x → ∃ pv, Ko.P w0 u0 W i n k m x.path pv ∧ ∀ r u, (Ar.five x pv)[r]? = some u → W.cell? ⟨ab, m * 5 + r, none⟩ = some u) := by
  have hr := h.rows.args k c hc
  have ho := hr.own
  rw [ha] at ho
  have hce := fun g hg => ho.cells (g := g) hg
  have hub := fun b hb => Rm.Ub.own ho (k := b) hb
  rcases ho.2 with ⟨e, hn⟩ | ⟨b, cap, cur, e, hbg, hg, hnc, hcm, hcs, htake⟩
  · omega
  · injection e with e1 e2 e3
    subst e1 e3
    refine ⟨b, rfl, hnc, hub b rfl, fun m x hm => ?_⟩
    obtain ⟨pv, h1, h2⟩ := hr.arg m x hm
    refine ⟨pv, h1, fun r u hu => ?_⟩
    have q0 := hce b rfl _ _ (h2 r u hu)
    rw [Ro.add, Nat.zero_add] at q0
    exact q0
theorem Ko.St.vfz {vb d : Nat} (h : Ko.St w0 u0 W base cs (.slice (some ⟨vb, 0, none⟩) cs.length d) xs av ys i n) : ∀ q, W.frozen? ⟨vb, q, none⟩ = false := Rm.Ub.own h.rows.own rfl
theorem Ko.St.afz (h : Ko.St w0 u0 W base cs v xs av ys i n) {c : Cm} {k ab len d : Nat} (hc : cs[k]? = some c) (ha : av k = .slice (some ⟨ab, 0, none⟩) len d) : ∀ q, W.frozen? ⟨ab, q, none⟩ = false := Rm.Ub.own (h.rows.args k c hc).own (by rw [ha]; rfl)
theorem Ko.St.acell (h : Ko.St w0 u0 W base cs v xs av ys i n) {c : Cm} {x : Ar} {k m ab d : Nat} (hc : cs[k]? = some c) (ha : av k = .slice (some ⟨ab, 0, none⟩) c.args.length d) (hm : c.args[m]? = some x) : W.cell? ⟨ab, m * 5 + 1, none⟩ = some (.string ⟨x.name.toArray⟩) ∧ W.cell? ⟨ab, m * 5 + 4, none⟩ = some (.string ⟨x.text.toArray⟩) := by
  obtain ⟨b, e, _, _, h1⟩ := h.aform hc ha (by have := (List.getElem?_eq_some_iff.1 hm).1; omega)
  injection e with e
  injection e with e
  subst e
  obtain ⟨pv, _, h2⟩ := h1 m x hm
  exact ⟨h2 1 _ rfl, h2 4 _ rfl⟩
theorem Ko.St.acell2 (h : Ko.St w0 u0 W base cs v xs av ys i n) {c : Cm} {x : Ar} {k m ab d : Nat} (hc : cs[k]? = some c) (ha : av k = .slice (some ⟨ab, 0, none⟩) c.args.length d) (hm : c.args[m]? = some x) : ∃ u, W.cell? ⟨ab, m * 5 + 2, none⟩ = some u := by
  obtain ⟨b, e, _, _, h1⟩ := h.aform hc ha (by have := (List.getElem?_eq_some_iff.1 hm).1; omega)
  injection e with e
  injection e with e
  subst e
  obtain ⟨pv, _, h2⟩ := h1 m x hm
  exact ⟨_, h2 2 _ rfl⟩
end
end Go.Proofs.YtjppobeomocgbaaGreatDoor
/-
  The library's contracts that the walks of lex lean on, laid at this program's own numbers; each is one application of a theorem of the library.
-/
namespace Go.Proofs.YtjppobeomocgbaaGreatDoor
open Go.Shelf
def Sh.lays161_ren : Go.Shelf.Ren := ⟨fun | 161 => 42 | 231 => 67 | 227 => 68 | 233 => 69 | 235 => 70 | 228 => 102 | 197 => 99 | 151 => 103 | 260 => 127 | 152 => 128 | 137 => 150 | 119 => 151 | 224 => 148 | 225 => 147 | 217 => 146 | 266 => 166 | n => n, fun | 9 => 9 | 4 => 4 | 3 => 3 | 5 => 5 | 117 => 130 | 116 => 129 | 0 => 0 | 124 => 133 | 105 => 160 | 21 => 21 | 119 => 186 | 46 => 34 | 139 => 189 | 138 => 188 | n => n, fun | 3 => 1 | 4 => 2 | n => n⟩
theorem Sh.lays161 : Go.Proofs.Lays.n161 Tryz.prog Sh.lays161_ren := {
  mixed := by kernel_rfl
  f119 := Tryz.func151.trans (congrArg some (by kernel_rfl))
  f137 := Tryz.func150.trans (congrArg some (by kernel_rfl))
  f151 := Tryz.func103.trans (congrArg some (by kernel_rfl))
  f152 := Tryz.func128.trans (congrArg some (by kernel_rfl))
  f161 := Tryz.func42.trans (congrArg some (by kernel_rfl))
  f197 := Tryz.func99.trans (congrArg some (by kernel_rfl))
  f217 := Tryz.func146.trans (congrArg some (by kernel_rfl))
  f224 := Tryz.func148.trans (congrArg some (by kernel_rfl))
  f225 := Tryz.func147.trans (congrArg some (by kernel_rfl))
  f227 := Tryz.func68.trans (congrArg some (by kernel_rfl))
  f228 := Tryz.func102.trans (congrArg some (by kernel_rfl))
  f231 := Tryz.func67.trans (congrArg some (by kernel_rfl))
  f233 := Tryz.func69.trans (congrArg some (by kernel_rfl))
  f235 := Tryz.func70.trans (congrArg some (by kernel_rfl))
  f260 := Tryz.func127.trans (congrArg some (by kernel_rfl))
  f266 := Tryz.func166.trans (congrArg some (by kernel_rfl))
  t0 := Tryz.underlying0
  a0 := Tryz.isAgg0
  z0 := Tryz.sizeOf0
  v0 := Tryz.zeroValue0
  t3 := Tryz.underlying3
  a3 := Tryz.isAgg3
  z3 := Tryz.sizeOf3
  v3 := Tryz.zeroValue3
  t4 := Tryz.underlying4
  a4 := Tryz.isAgg4
  z4 := Tryz.sizeOf4
  v4 := Tryz.zeroValue4
  t5 := Tryz.underlying5
  a5 := Tryz.isAgg5
  z5 := Tryz.sizeOf5
  v5 := Tryz.zeroValue5
  t9 := Tryz.underlying9
  a9 := Tryz.isAgg9
  z9 := Tryz.sizeOf9
  v9 := Tryz.zeroValue9
  t21 := Tryz.underlying21
  a21 := Tryz.isAgg21
  z21 := Tryz.sizeOf21
  v21 := Tryz.zeroValue21
  t46 := Tryz.underlying34
  a46 := Tryz.isAgg34
  z46 := Tryz.sizeOf34
  v46 := Tryz.zeroValue34
  t105 := Tryz.underlying160
  a105 := Tryz.isAgg160
  z105 := Tryz.sizeOf160
  v105 := Tryz.zeroValue160
  t116 := Tryz.underlying129
  a116 := Tryz.isAgg129
  z116 := Tryz.sizeOf129
  t117 := Tryz.underlying130
  a117 := Tryz.isAgg130
  z117 := Tryz.sizeOf130
  v117 := Tryz.zeroValue130
  t119 := Tryz.underlying186
  a119 := Tryz.isAgg186
  z119 := Tryz.sizeOf186
  t124 := Tryz.underlying133
  a124 := Tryz.isAgg133
  z124 := Tryz.sizeOf133
  v124 := Tryz.zeroValue133
  t138 := Tryz.underlying188
  a138 := Tryz.isAgg188
  z138 := Tryz.sizeOf188
  v138 := Tryz.zeroValue188
  t139 := Tryz.underlying189
  a139 := Tryz.isAgg189
  z139 := Tryz.sizeOf189
  v139 := Tryz.zeroValue189
  g3 := by kernel_rfl
  g4 := by kernel_rfl }
def Sh.lays162_ren : Go.Shelf.Ren := ⟨fun | 162 => 45 | 232 => 72 | 227 => 68 | 234 => 73 | 236 => 74 | 228 => 102 | 271 => 105 | 151 => 103 | 120 => 129 | 197 => 99 | 152 => 128 | 260 => 127 | 137 => 150 | 119 => 151 | 224 => 148 | 225 => 147 | 217 => 146 | 266 => 166 | n => n, fun | 9 => 9 | 4 => 4 | 3 => 3 | 5 => 5 | 117 => 130 | 116 => 129 | 0 => 0 | 124 => 133 | 21 => 21 | 105 => 160 | 46 => 34 | 119 => 186 | 139 => 189 | 138 => 188 | n => n, fun | 3 => 1 | 4 => 2 | n => n⟩
theorem Sh.lays162 : Go.Proofs.Lays.n162 Tryz.prog Sh.lays162_ren := {
  mixed := by kernel_rfl
  f119 := Tryz.func151.trans (congrArg some (by kernel_rfl))
  f120 := Tryz.func129.trans (congrArg some (by kernel_rfl))
  f137 := Tryz.func150.trans (congrArg some (by kernel_rfl))
  f151 := Tryz.func103.trans (congrArg some (by kernel_rfl))
  f152 := Tryz.func128.trans (congrArg some (by kernel_rfl))
  f162 := Tryz.func45.trans (congrArg some (by kernel_rfl))
  f197 := Tryz.func99.trans (congrArg some (by kernel_rfl))
  f217 := Tryz.func146.trans (congrArg some (by kernel_rfl))
  f224 := Tryz.func148.trans (congrArg some (by kernel_rfl))
  f225 := Tryz.func147.trans (congrArg some (by kernel_rfl))
  f227 := Tryz.func68.trans (congrArg some (by kernel_rfl))
  f228 := Tryz.func102.trans (congrArg some (by kernel_rfl))
  f232 := Tryz.func72.trans (congrArg some (by kernel_rfl))
  f234 := Tryz.func73.trans (congrArg some (by kernel_rfl))
  f236 := Tryz.func74.trans (congrArg some (by kernel_rfl))
  f260 := Tryz.func127.trans (congrArg some (by kernel_rfl))
  f266 := Tryz.func166.trans (congrArg some (by kernel_rfl))
  f271 := Tryz.func105.trans (congrArg some (by kernel_rfl))
  t0 := Tryz.underlying0
  a0 := Tryz.isAgg0
  z0 := Tryz.sizeOf0
  v0 := Tryz.zeroValue0
  t3 := Tryz.underlying3
  a3 := Tryz.isAgg3
  z3 := Tryz.sizeOf3
  v3 := Tryz.zeroValue3
  t4 := Tryz.underlying4
  a4 := Tryz.isAgg4
  z4 := Tryz.sizeOf4
  v4 := Tryz.zeroValue4
  t5 := Tryz.underlying5
  a5 := Tryz.isAgg5
  z5 := Tryz.sizeOf5
  v5 := Tryz.zeroValue5
  t9 := Tryz.underlying9
  a9 := Tryz.isAgg9
  z9 := Tryz.sizeOf9
  v9 := Tryz.zeroValue9
  t21 := Tryz.underlying21
  a21 := Tryz.isAgg21
  z21 := Tryz.sizeOf21
  v21 := Tryz.zeroValue21
  t46 := Tryz.underlying34
  a46 := Tryz.isAgg34
  z46 := Tryz.sizeOf34
  v46 := Tryz.zeroValue34
  t105 := Tryz.underlying160
  a105 := Tryz.isAgg160
  z105 := Tryz.sizeOf160
  v105 := Tryz.zeroValue160
  t116 := Tryz.underlying129
  a116 := Tryz.isAgg129
  z116 := Tryz.sizeOf129
  t117 := Tryz.underlying130
  a117 := Tryz.isAgg130
  z117 := Tryz.sizeOf130
  v117 := Tryz.zeroValue130
  t119 := Tryz.underlying186
  a119 := Tryz.isAgg186
  z119 := Tryz.sizeOf186
  t124 := Tryz.underlying133
  a124 := Tryz.isAgg133
  z124 := Tryz.sizeOf133
  v124 := Tryz.zeroValue133
  t138 := Tryz.underlying188
  a138 := Tryz.isAgg188
  z138 := Tryz.sizeOf188
  v138 := Tryz.zeroValue188
  t139 := Tryz.underlying189
  a139 := Tryz.isAgg189
  z139 := Tryz.sizeOf189
  v139 := Tryz.zeroValue189
  g3 := by kernel_rfl
  g4 := by kernel_rfl }
def Sh.lays160_ren : Go.Shelf.Ren := ⟨fun | 160 => 51 | 232 => 72 | 231 => 67 | 227 => 68 | 234 => 73 | 233 => 69 | 236 => 74 | 235 => 70 | 228 => 102 | 271 => 105 | 151 => 103 | 197 => 99 | 120 => 129 | 152 => 128 | 260 => 127 | 137 => 150 | 119 => 151 | 224 => 148 | 225 => 147 | 217 => 146 | 266 => 166 | n => n, fun | 9 => 9 | 4 => 4 | 3 => 3 | 5 => 5 | 117 => 130 | 116 => 129 | 0 => 0 | 124 => 133 | 21 => 21 | 105 => 160 | 46 => 34 | 119 => 186 | 139 => 189 | 138 => 188 | n => n, fun | 3 => 1 | 4 => 2 | n => n⟩
theorem Sh.lays160 : Go.Proofs.Lays.n160 Tryz.prog Sh.lays160_ren := {
  mixed := by kernel_rfl
  f119 := Tryz.func151.trans (congrArg some (by kernel_rfl))
  f120 := Tryz.func129.trans (congrArg some (by kernel_rfl))
  f137 := Tryz.func150.trans (congrArg some (by kernel_rfl))
  f151 := Tryz.func103.trans (congrArg some (by kernel_rfl))
  f152 := Tryz.func128.trans (congrArg some (by kernel_rfl))
  f160 := Tryz.func51.trans (congrArg some (by kernel_rfl))
  f197 := Tryz.func99.trans (congrArg some (by kernel_rfl))
  f217 := Tryz.func146.trans (congrArg some (by kernel_rfl))
  f224 := Tryz.func148.trans (congrArg some (by kernel_rfl))
  f225 := Tryz.func147.trans (congrArg some (by kernel_rfl))
  f227 := Tryz.func68.trans (congrArg some (by kernel_rfl))
  f228 := Tryz.func102.trans (congrArg some (by kernel_rfl))
  f231 := Tryz.func67.trans (congrArg some (by kernel_rfl))
  f232 := Tryz.func72.trans (congrArg some (by kernel_rfl))
  f233 := Tryz.func69.trans (congrArg some (by kernel_rfl))
  f234 := Tryz.func73.trans (congrArg some (by kernel_rfl))
  f235 := Tryz.func70.trans (congrArg some (by kernel_rfl))
  f236 := Tryz.func74.trans (congrArg some (by kernel_rfl))
  f260 := Tryz.func127.trans (congrArg some (by kernel_rfl))
  f266 := Tryz.func166.trans (congrArg some (by kernel_rfl))
  f271 := Tryz.func105.trans (congrArg some (by kernel_rfl))
  t0 := Tryz.underlying0
  a0 := Tryz.isAgg0
  z0 := Tryz.sizeOf0
  v0 := Tryz.zeroValue0
  t3 := Tryz.underlying3
  a3 := Tryz.isAgg3
  z3 := Tryz.sizeOf3
  v3 := Tryz.zeroValue3
  t4 := Tryz.underlying4
  a4 := Tryz.isAgg4
  z4 := Tryz.sizeOf4
  v4 := Tryz.zeroValue4
  t5 := Tryz.underlying5
  a5 := Tryz.isAgg5
  z5 := Tryz.sizeOf5
  v5 := Tryz.zeroValue5
  t9 := Tryz.underlying9
  a9 := Tryz.isAgg9
  z9 := Tryz.sizeOf9
  v9 := Tryz.zeroValue9
  t21 := Tryz.underlying21
  a21 := Tryz.isAgg21
  z21 := Tryz.sizeOf21
  v21 := Tryz.zeroValue21
  t46 := Tryz.underlying34
  a46 := Tryz.isAgg34
  z46 := Tryz.sizeOf34
  v46 := Tryz.zeroValue34
  t105 := Tryz.underlying160
  a105 := Tryz.isAgg160
  z105 := Tryz.sizeOf160
  v105 := Tryz.zeroValue160
  t116 := Tryz.underlying129
  a116 := Tryz.isAgg129
  z116 := Tryz.sizeOf129
  t117 := Tryz.underlying130
  a117 := Tryz.isAgg130
  z117 := Tryz.sizeOf130
  v117 := Tryz.zeroValue130
  t119 := Tryz.underlying186
  a119 := Tryz.isAgg186
  z119 := Tryz.sizeOf186
  t124 := Tryz.underlying133
  a124 := Tryz.isAgg133
  z124 := Tryz.sizeOf133
  v124 := Tryz.zeroValue133
  t138 := Tryz.underlying188
  a138 := Tryz.isAgg188
  z138 := Tryz.sizeOf188
  v138 := Tryz.zeroValue188
  t139 := Tryz.underlying189
  a139 := Tryz.isAgg189
  z139 := Tryz.sizeOf189
  v139 := Tryz.zeroValue189
  g3 := by kernel_rfl
  g4 := by kernel_rfl }
def Sh.lays104_ren : Go.Shelf.Ren := ⟨fun | 104 => 78 | 211 => 107 | 207 => 130 | n => n, fun | 9 => 9 | 4 => 4 | 24 => 101 | 3 => 3 | n => n, fun | n => n⟩
theorem Sh.lays104 : Go.Proofs.Lays.n104 Tryz.prog Sh.lays104_ren := {
  mixed := by kernel_rfl
  f104 := Tryz.func78.trans (congrArg some (by kernel_rfl))
  f207 := Tryz.func130.trans (congrArg some (by kernel_rfl))
  f211 := Tryz.func107.trans (congrArg some (by kernel_rfl))
  t3 := Tryz.underlying3
  a3 := Tryz.isAgg3
  z3 := Tryz.sizeOf3
  v3 := Tryz.zeroValue3
  t4 := Tryz.underlying4
  a4 := Tryz.isAgg4
  z4 := Tryz.sizeOf4
  v4 := Tryz.zeroValue4
  t9 := Tryz.underlying9
  a9 := Tryz.isAgg9
  z9 := Tryz.sizeOf9
  v9 := Tryz.zeroValue9
  t24 := Tryz.underlying101
  a24 := Tryz.isAgg101
  z24 := Tryz.sizeOf101
  v24 := Tryz.zeroValue101 }
open Go.RowKit in
theorem Sh.strings_CutSuffix (s p : ByteArray) (w : World) (hs : s.size ≤ 9223372036854775807) :
    Calls Tryz.prog 78 #[.string s, .string p] w fun e w' => e = .returned (.tuple #[.string ⟨(Lib.trimSuffix s.data.toList p.data.toList).toArray⟩, .bool (Lib.hasSuffix s.data.toList p.data.toList)]) ∧ w' = w := Any.strings_CutSuffix Sh.lays104 s p w hs
def Sh.laysM316_ren : Go.Shelf.Ren := ⟨fun | 316 => 106 | n => n, fun | 9 => 9 | 3 => 3 | 4 => 4 | 37 => 70 | 0 => 0 | 127 => 173 | 5 => 5 | n => n, fun | n => n⟩
theorem Sh.laysM316 : Go.Proofs.LaysM.n316 Tryz.prog Sh.laysM316_ren := {
  mixed := by kernel_rfl
  f316 := Tryz.func106.trans (congrArg some (by kernel_rfl))
  t0 := Tryz.underlying0
  a0 := Tryz.isAgg0
  z0 := Tryz.sizeOf0
  v0 := Tryz.zeroValue0
  t3 := Tryz.underlying3
  a3 := Tryz.isAgg3
  z3 := Tryz.sizeOf3
  v3 := Tryz.zeroValue3
  t4 := Tryz.underlying4
  a4 := Tryz.isAgg4
  z4 := Tryz.sizeOf4
  v4 := Tryz.zeroValue4
  t9 := Tryz.underlying9
  a9 := Tryz.isAgg9
  z9 := Tryz.sizeOf9
  v9 := Tryz.zeroValue9
  t37 := Tryz.underlying70
  a37 := Tryz.isAgg70
  z37 := Tryz.sizeOf70
  v37 := Tryz.zeroValue70
  t127 := Tryz.underlying173
  a127 := Tryz.isAgg173
  z127 := Tryz.sizeOf173
  v127 := Tryz.zeroValue173
  t5 := Tryz.underlying5
  a5 := Tryz.isAgg5
  z5 := Tryz.sizeOf5
  v5 := Tryz.zeroValue5
  i0 := by kernel_rfl
  i3 := by kernel_rfl
  i4 := by kernel_rfl
  i5 := by kernel_rfl
  i9 := by kernel_rfl
  i37 := by kernel_rfl
  i127 := by kernel_rfl }
open Go.RowKit in
theorem Sh.stringslite_Clone (s : ByteArray) (w : World) (hlim : s.size ≤ 281474976710656) :
    Calls Tryz.prog 106 #[.string s] w fun e w' => e = .returned (.string s) ∧ Below w.heap.size w w' := Any.stringslite_Clone Sh.laysM316 s w hlim
def Sh.lays145_ren : Go.Shelf.Ren := ⟨fun | 145 => 65 | 220 => 101 | 219 => 126 | 217 => 146 | 225 => 147 | 224 => 148 | 267 => 149 | 266 => 166 | 314 => 167 | n => n, fun | 9 => 9 | 4 => 4 | 59 => 124 | 3 => 3 | 5 => 5 | 46 => 34 | 146 => 196 | 51 => 195 | n => n, fun | 1 => 0 | n => n⟩
theorem Sh.lays145 : Go.Proofs.Lays.n145 Tryz.prog Sh.lays145_ren := {
  mixed := by kernel_rfl
  f145 := Tryz.func65.trans (congrArg some (by kernel_rfl))
  f217 := Tryz.func146.trans (congrArg some (by kernel_rfl))
  f219 := Tryz.func126.trans (congrArg some (by kernel_rfl))
  f220 := Tryz.func101.trans (congrArg some (by kernel_rfl))
  f224 := Tryz.func148.trans (congrArg some (by kernel_rfl))
  f225 := Tryz.func147.trans (congrArg some (by kernel_rfl))
  f266 := Tryz.func166.trans (congrArg some (by kernel_rfl))
  f267 := Tryz.func149.trans (congrArg some (by kernel_rfl))
  f314 := Tryz.func167.trans (congrArg some (by kernel_rfl))
  t3 := Tryz.underlying3
  a3 := Tryz.isAgg3
  z3 := Tryz.sizeOf3
  v3 := Tryz.zeroValue3
  t4 := Tryz.underlying4
  a4 := Tryz.isAgg4
  z4 := Tryz.sizeOf4
  v4 := Tryz.zeroValue4
  t5 := Tryz.underlying5
  a5 := Tryz.isAgg5
  z5 := Tryz.sizeOf5
  v5 := Tryz.zeroValue5
  t9 := Tryz.underlying9
  a9 := Tryz.isAgg9
  z9 := Tryz.sizeOf9
  v9 := Tryz.zeroValue9
  t46 := Tryz.underlying34
  a46 := Tryz.isAgg34
  z46 := Tryz.sizeOf34
  v46 := Tryz.zeroValue34
  t51 := Tryz.underlying195
  a51 := Tryz.isAgg195
  z51 := Tryz.sizeOf195
  v51 := Tryz.zeroValue195
  t59 := Tryz.underlying124
  a59 := Tryz.isAgg124
  z59 := Tryz.sizeOf124
  v59 := Tryz.zeroValue124
  t146 := Tryz.underlying196
  a146 := Tryz.isAgg196
  z146 := Tryz.sizeOf196
  v146 := Tryz.zeroValue196
  g1 := by kernel_rfl }
open Go.RowKit Go.Lib in
theorem Sh.strings_Cut (s sep : ByteArray) (m : Int) (w : World) (hs : s.size < 4294967281) (hm : w.cell? ⟨0, 0, none⟩ = some (.int .i64 m)) :
    Calls Tryz.prog 65 #[.string s, .string sep] w fun e w' => e = .returned (.tuple #[.string ⟨(Lib.cut s.data.toList sep.data.toList).1.toArray⟩, .string ⟨(Lib.cut s.data.toList sep.data.toList).2.1.toArray⟩, .bool (Lib.cut s.data.toList sep.data.toList).2.2]) ∧ ∃ n, w' = w.drewN n := Any.strings_Cut Sh.lays145 s sep m w hs hm
def Sh.lays99_ren : Go.Shelf.Ren := ⟨fun | 99 => 71 | 206 => 104 | n => n, fun | 9 => 9 | 4 => 4 | 3 => 3 | n => n, fun | n => n⟩
theorem Sh.lays99 : Go.Proofs.Lays.n99 Tryz.prog Sh.lays99_ren := {
  mixed := by kernel_rfl
  f99 := Tryz.func71.trans (congrArg some (by kernel_rfl))
  f206 := Tryz.func104.trans (congrArg some (by kernel_rfl))
  t3 := Tryz.underlying3
  a3 := Tryz.isAgg3
  z3 := Tryz.sizeOf3
  v3 := Tryz.zeroValue3
  t4 := Tryz.underlying4
  a4 := Tryz.isAgg4
  z4 := Tryz.sizeOf4
  v4 := Tryz.zeroValue4
  t9 := Tryz.underlying9
  a9 := Tryz.isAgg9
  z9 := Tryz.sizeOf9
  v9 := Tryz.zeroValue9 }
open Go.RowKit Go.Lib in
theorem Sh.strings_HasPrefix (s p : ByteArray) (w : World) :
    Calls Tryz.prog 71 #[.string s, .string p] w fun e w' => e = .returned (.bool (Lib.hasPrefix s.data.toList p.data.toList)) ∧ w' = w := Any.strings_HasPrefix Sh.lays99 s p w
def Sh.lays155_ren : Go.Shelf.Ren := ⟨fun | 155 => 40 | 154 => 64 | 138 => 95 | 165 => 96 | 143 => 97 | 166 => 98 | 197 => 99 | 169 => 100 | 195 => 122 | 218 => 123 | 240 => 124 | 241 => 125 | 219 => 126 | 260 => 127 | 276 => 144 | 277 => 145 | 217 => 146 | 225 => 147 | 224 => 148 | 267 => 149 | 266 => 166 | 314 => 167 | n => n, fun | 9 => 9 | 3 => 3 | 4 => 4 | 72 => 155 | 0 => 0 | 76 => 158 | 105 => 160 | 21 => 21 | 5 => 5 | 70 => 153 | 20 => 20 | 37 => 70 | 75 => 157 | 127 => 173 | 164 => 182 | 46 => 34 | 119 => 186 | 139 => 189 | 138 => 188 | 146 => 196 | 51 => 195 | 80 => 126 | n => n, fun | 1 => 0 | 3 => 1 | 4 => 2 | n => n⟩
theorem Sh.lays155 : Go.Proofs.Lays.n155 Tryz.prog Sh.lays155_ren := {
  mixed := by kernel_rfl
  f138 := Tryz.func95.trans (congrArg some (by kernel_rfl))
  f143 := Tryz.func97.trans (congrArg some (by kernel_rfl))
  f154 := Tryz.func64.trans (congrArg some (by kernel_rfl))
  f155 := Tryz.func40.trans (congrArg some (by kernel_rfl))
  f165 := Tryz.func96.trans (congrArg some (by kernel_rfl))
  f166 := Tryz.func98.trans (congrArg some (by kernel_rfl))
  f169 := Tryz.func100.trans (congrArg some (by kernel_rfl))
  f195 := Tryz.func122.trans (congrArg some (by kernel_rfl))
  f197 := Tryz.func99.trans (congrArg some (by kernel_rfl))
  f217 := Tryz.func146.trans (congrArg some (by kernel_rfl))
  f218 := Tryz.func123.trans (congrArg some (by kernel_rfl))
  f219 := Tryz.func126.trans (congrArg some (by kernel_rfl))
  f224 := Tryz.func148.trans (congrArg some (by kernel_rfl))
  f225 := Tryz.func147.trans (congrArg some (by kernel_rfl))
  f240 := Tryz.func124.trans (congrArg some (by kernel_rfl))
  f241 := Tryz.func125.trans (congrArg some (by kernel_rfl))
  f260 := Tryz.func127.trans (congrArg some (by kernel_rfl))
  f266 := Tryz.func166.trans (congrArg some (by kernel_rfl))
  f267 := Tryz.func149.trans (congrArg some (by kernel_rfl))
  f276 := Tryz.func144.trans (congrArg some (by kernel_rfl))
  f277 := Tryz.func145.trans (congrArg some (by kernel_rfl))
  f314 := Tryz.func167.trans (congrArg some (by kernel_rfl))
  t0 := Tryz.underlying0
  a0 := Tryz.isAgg0
  z0 := Tryz.sizeOf0
  v0 := Tryz.zeroValue0
  t3 := Tryz.underlying3
  a3 := Tryz.isAgg3
  z3 := Tryz.sizeOf3
  v3 := Tryz.zeroValue3
  t4 := Tryz.underlying4
  a4 := Tryz.isAgg4
  z4 := Tryz.sizeOf4
  v4 := Tryz.zeroValue4
  t5 := Tryz.underlying5
  a5 := Tryz.isAgg5
  z5 := Tryz.sizeOf5
  v5 := Tryz.zeroValue5
  t9 := Tryz.underlying9
  a9 := Tryz.isAgg9
  z9 := Tryz.sizeOf9
  v9 := Tryz.zeroValue9
  t20 := Tryz.underlying20
  a20 := Tryz.isAgg20
  z20 := Tryz.sizeOf20
  v20 := Tryz.zeroValue20
  t21 := Tryz.underlying21
  a21 := Tryz.isAgg21
  z21 := Tryz.sizeOf21
  v21 := Tryz.zeroValue21
  t37 := Tryz.underlying70
  a37 := Tryz.isAgg70
  z37 := Tryz.sizeOf70
  v37 := Tryz.zeroValue70
  t46 := Tryz.underlying34
  a46 := Tryz.isAgg34
  z46 := Tryz.sizeOf34
  v46 := Tryz.zeroValue34
  t51 := Tryz.underlying195
  a51 := Tryz.isAgg195
  z51 := Tryz.sizeOf195
  v51 := Tryz.zeroValue195
  t70 := Tryz.underlying153
  a70 := Tryz.isAgg153
  z70 := Tryz.sizeOf153
  v70 := Tryz.zeroValue153
  t72 := Tryz.underlying155
  a72 := Tryz.isAgg155
  z72 := Tryz.sizeOf155
  v72 := Tryz.zeroValue155
  t75 := Tryz.underlying157
  a75 := Tryz.isAgg157
  z75 := Tryz.sizeOf157
  v75 := Tryz.zeroValue157
  t76 := Tryz.underlying158
  a76 := Tryz.isAgg158
  z76 := Tryz.sizeOf158
  v76 := Tryz.zeroValue158
  t105 := Tryz.underlying160
  a105 := Tryz.isAgg160
  z105 := Tryz.sizeOf160
  v105 := Tryz.zeroValue160
  t119 := Tryz.underlying186
  a119 := Tryz.isAgg186
  z119 := Tryz.sizeOf186
  t127 := Tryz.underlying173
  a127 := Tryz.isAgg173
  z127 := Tryz.sizeOf173
  v127 := Tryz.zeroValue173
  t138 := Tryz.underlying188
  a138 := Tryz.isAgg188
  z138 := Tryz.sizeOf188
  v138 := Tryz.zeroValue188
  t139 := Tryz.underlying189
  a139 := Tryz.isAgg189
  z139 := Tryz.sizeOf189
  v139 := Tryz.zeroValue189
  t146 := Tryz.underlying196
  a146 := Tryz.isAgg196
  z146 := Tryz.sizeOf196
  v146 := Tryz.zeroValue196
  t164 := Tryz.underlying182
  a164 := Tryz.isAgg182
  z164 := Tryz.sizeOf182
  v164 := Tryz.zeroValue182
  g1 := by kernel_rfl
  g3 := by kernel_rfl
  g4 := by kernel_rfl }
theorem Sh.Builder_Extra_155 : Builder.Extra Tryz.prog Sh.lays155_ren := {
  sizeBuilder := by kernel_rfl
  liesBuilder := by kernel_rfl
  t5 := Tryz.underlying5
  a5 := Tryz.isAgg5
  z5 := Tryz.sizeOf5
  v5 := Tryz.zeroValue5
  infoByte := by kernel_rfl
  cellsByte := by kernel_rfl
  sizeByte := by kernel_rfl
  neB5 := by decide }
open Go.RowKit Go.Lib in
theorem Sh.strings_ReplaceAll (s old new : ByteArray) (m : Int) (w : World) (hs : s.size < 4294967281) (hm : w.cell? ⟨0, 0, none⟩ = some (.int .i64 m)) (h1 : 1 ≤ old.size) (hlen : s.size + Lib.countB s old * new.size ≤ 140737488355328) :
    Calls Tryz.prog 40 #[.string s, .string old, .string new] w fun e w' =>
      e = .returned (.string ⟨(Lib.replaceAll s.data.toList old.data.toList new.data.toList).toArray⟩) ∧ Below w.heap.size w w' := Any.strings_ReplaceAll Sh.lays155 Sh.Builder_Extra_155 s old new m w hs hm h1 hlen
end Go.Proofs.YtjppobeomocgbaaGreatDoor

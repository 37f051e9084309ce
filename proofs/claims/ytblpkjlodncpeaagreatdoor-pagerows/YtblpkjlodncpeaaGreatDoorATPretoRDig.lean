/-
  PLAIN: what the walk of the reader's read asks, from what its parts keep to; the run over a page, byte by byte.
-/
import Derived.Test.YtblpkjlodncpeaaGreatDoorATInv
import Derived.Test.YtblpkjlodncpeaaGreatDoorAPlaintoUShape
import Derived.Test.YtblpkjlodncpeaaGreatDoorProg
import Derived.WalkKit
import Derived.BigCall
import Derived.Laws.Runes
namespace Go.Proofs.YtblpkjlodncpeaaGreatDoor
theorem Rd.Ok.tx {r : Rd} {i : Nat} {N : Ts} {o : Nat} (h : Rd.Ok r i) (k : Nat) (hk : r.st.pl = (k : Int)) (hN : N.pl ∈ Ts.nexts k) (ho : (if N.pl = 1 ∨ N.pl = 20 then i else r.opn) = o)
    (hc : (r.st.pl = 22 ∧ N.pl = 0) ∨ (Rd.loose r.st.pl = true ∧ Rd.loose N.pl = false)) : r.text ≤ o ∧ o ≤ i := by
  have hn : ¬ (N.pl = 1 ∨ N.pl = 20) := by
    rintro (e | e) <;> rcases hc with ⟨_, q⟩ | ⟨_, q⟩
    · omega
    · rw [e] at q; exact absurd q (by decide)
    · omega
    · rw [e] at q; exact absurd q (by decide)
  rw [if_neg hn] at ho
  subst ho
  have h3 : r.st.pl = 1 ∨ r.st.pl = 2 ∨ r.st.pl = 22 := by
    rcases hc with ⟨q, _⟩ | ⟨q1, q2⟩
    · exact .inr (.inr q)
    · have hlt := h.hi
      unfold Rd.loose at q1
      simp only [Bool.or_eq_true, decide_eq_true_eq] at q1
      have hcase : k = 0 ∨ k = 1 ∨ k = 2 ∨ k = 19 ∨ k = 20 ∨ k = 21 ∨ k = 22 := by omega
      rcases hcase with e | e | e | e | e | e | e
      all_goals subst e
      all_goals simp only [Ts.nexts, List.mem_cons, List.not_mem_nil, or_false] at hN
      · rcases hN with e | e <;> (rw [e] at q2; exact absurd q2 (by decide))
      · exact .inl hk
      · exact .inr (.inl hk)
      · rcases hN with e | e <;> (rw [e] at q2; exact absurd q2 (by decide))
      · rcases hN with e | e | e <;> (rw [e] at q2; exact absurd q2 (by decide))
      · rcases hN with e | e | e <;> (rw [e] at q2; exact absurd q2 (by decide))
      · exact .inr (.inr hk)
  have := h.opn (by omega)
  omega
theorem Rd.Ok.cm {r : Rd} {i : Nat} {N : Ts} {o : Nat} (h : Rd.Ok r i) (k : Nat) (hk : r.st.pl = (k : Int)) (hN : N.pl ∈ Ts.nexts k) (ho : (if N.pl = 1 ∨ N.pl = 20 then i else r.opn) = o)
    (h1 : Ts.inTag r.st.pl = false) (h2 : Rd.loose r.st.pl = false) (_h3 : Rd.loose N.pl = true) : (r.st.pl ≠ 17 → o + 2 ≤ i) ∧ (r.st.pl = 17 → o + 6 ≤ i) := by
  have hlt := h.hi
  have hlo := h.lo
  have hr : 13 ≤ r.st.pl ∧ r.st.pl ≤ 18 := by
    unfold Rd.loose at h2
    unfold Ts.inTag at h1
    rw [Bool.and_eq_false_iff, decide_eq_false_iff_not, decide_eq_false_iff_not] at h1
    rw [Bool.or_eq_false_iff, decide_eq_false_iff_not, decide_eq_false_iff_not] at h2
    omega
  have hn : ¬ (N.pl = 1 ∨ N.pl = 20) := by
    have hcase : k = 13 ∨ k = 14 ∨ k = 15 ∨ k = 16 ∨ k = 17 ∨ k = 18 := by omega
    rcases hcase with e | e | e | e | e | e
    all_goals subst e
    all_goals simp only [Ts.nexts, List.mem_cons, List.not_mem_nil, or_false] at hN
    all_goals omega
  rw [if_neg hn] at ho
  subst ho
  exact ⟨fun _ => h.bang hr.1 hr.2, fun q => h.c17 q⟩
theorem Rd.run_snoc (P : ByteArray) : ∀ (l : List UInt8) (r : Rd) (i : Nat) (c : UInt8), Rd.run P r i (l ++ [c]) = Rd.read P (Rd.run P r i l) (i + l.length) c := by
  intro l
  induction l with
  | nil => intro r i c; rfl
  | cons a l ih =>
    intro r i c
    show Rd.run P (Rd.read P r i a) (i + 1) (l ++ [c]) = _
    rw [ih]
    show Rd.read P (Rd.run P (Rd.read P r i a) (i + 1) l) (i + 1 + l.length) c = Rd.read P (Rd.run P (Rd.read P r i a) (i + 1) l) (i + (l.length + 1)) c
    rw [Nat.add_assoc, Nat.add_comm 1]
theorem Rd.Ok.run {P : ByteArray} : ∀ (l : List UInt8) {r : Rd} {i : Nat}, Rd.Ok r i → Rd.Ok (Rd.run P r i l) (i + l.length) := by
  intro l
  induction l with
  | nil => intro r i h; exact h
  | cons a l ih =>
    intro r i h
    have := ih (h.read a (P := P))
    rw [List.length_cons, show i + (l.length + 1) = i + 1 + l.length by omega]
    exact this
end Go.Proofs.YtblpkjlodncpeaaGreatDoor
/-
  PLAIN: a page as tokens the reference's way: the bytes of a text gathered, an attribute told when the next one comes; that it gives the reader's tokens.
-/
namespace Go.Proofs.YtblpkjlodncpeaaGreatDoor
/-- the reference's scan -/
structure Rf where
  st : Ts
  hold : Int
  buf : List UInt8
  raw : Bool
  out : List Tk
  attrs : List (ByteArray × ByteArray)
  has : Bool
  pn : ByteArray
  pv : ByteArray
def Rf.sl (P : ByteArray) (a b : Nat) : List UInt8 := (P.extract a b).data.toList
def Rf.isRaw (h : ByteArray) : Bool := decide (Ts.kind h = 3 ∨ Ts.kind h = 4)
def Rf.txt (b : List UInt8) (raw : Bool) : ByteArray := if raw = true then ⟨b.toArray⟩ else Rd.dec ⟨b.toArray⟩
def Rf.adds (P : ByteArray) (x : Rf) (a b : Nat) : Rf := { x with raw := Rf.isRaw x.st.held, buf := x.buf ++ Rf.sl P a b }
def Rf.flush (x : Rf) : Rf := if x.buf = [] then x else { x with out := x.out ++ [⟨0, Ts.e, Rf.txt x.buf x.raw, [], false⟩], buf := [] }
def Rf.fresh (x : Rf) : Bool := !(x.attrs.any (fun a => decide (a.1 = x.pn))) && decide (x.attrs.length < 32)
def Rf.commit (x : Rf) : Rf :=
  if x.has = true then (if x.attrs.any (fun a => decide (a.1 = x.pn)) = true then { x with has := false } else if x.attrs.length < 32 then { x with has := false, attrs := x.attrs ++ [(x.pn, Rd.dec x.pv)] } else { x with has := false }) else x
def Rf.tag (was : Ts) (al : List (ByteArray × ByteArray)) : Tk :=
  if was.fin = true ∨ was.held ≠ Ts.e then ⟨2, if was.held ≠ Ts.e then was.held else was.name, Ts.e, [], false⟩ else ⟨1, was.name, Ts.e, al, was.pl == 12⟩
def Rf.emit (x : Rf) (was : Ts) : Rf := { x.commit.flush with out := x.commit.flush.out ++ [Rf.tag was x.commit.flush.attrs], attrs := [] }
def Rf.value (P : ByteArray) (x : Rf) (was : Ts) (i : Nat) : Rf :=
  if x.st.pl = 5 ∧ was.pl ≠ 5 then { x.commit with has := true, pn := x.st.attr, pv := Ts.e }
  else if x.st.pl = 5 then { x with pn := x.st.attr }
  else if x.st.pl = 10 ∨ (x.st.pl = was.pl ∧ (x.st.pl = 8 ∨ x.st.pl = 9)) then { x with pv := x.pv ++ P.extract i (i + 1) } else x
def Rf.inText (a : Int) : Prop := a = 0 ∨ a = 1 ∨ a = 2 ∨ 19 ≤ a
def Rf.inTag (a : Int) : Prop := 3 ≤ a ∧ a ≤ 12
instance (a : Int) : Decidable (Rf.inText a) := by unfold Rf.inText; infer_instance
instance (a : Int) : Decidable (Rf.inTag a) := by unfold Rf.inTag; infer_instance
/-- the scan's answer to a byte, the state behind it given -/
def Rf.go (P : ByteArray) (x0 : Rf) (N : Ts) (i : Nat) : Rf :=
  let x : Rf := { x0 with st := N }
  if (x0.st.pl = 22 ∧ N.pl = 0) ∨ (Rf.inTag x0.st.pl ∧ ¬ Rf.inTag N.pl) then { x.emit x0.st with hold := -1 }
  else if Rf.inTag N.pl then x.value P x0.st i
  else if 13 ≤ x0.st.pl ∧ x0.st.pl ≤ 18 ∧ N.pl = 0 then { x.flush with out := x.flush.out ++ [⟨3, Ts.e, if x0.st.pl = 17 then P.extract (x0.hold.toNat + 4) (i - 2) else P.extract (x0.hold.toNat + 2) i, [], false⟩], hold := -1 }
  else if ¬ Rf.inText N.pl ∨ ¬ Rf.inText x0.st.pl then x
  else if N.pl = 1 ∨ N.pl = 20 then { (if 0 ≤ x0.hold then x.adds P x0.hold.toNat i else x) with hold := (i : Int) }
  else if N.pl = 0 ∨ N.pl = 19 then { x.adds P (if 0 ≤ x0.hold then x0.hold.toNat else i) (i + 1) with hold := -1 }
  else x
def Rf.byte (P : ByteArray) (x : Rf) (i : Nat) (c : UInt8) : Rf := Rf.go P x (x.st.step c) i
def Rf.start : Rf := ⟨Ts.start, -1, [], false, [], [], false, Ts.e, Ts.e⟩
def Rf.run (P : ByteArray) (x : Rf) (i : Nat) : List UInt8 → Rf
  | [] => x
  | c :: l => Rf.run P (Rf.byte P x i c) (i + 1) l
def Rf.done (P : ByteArray) (x : Rf) : List Tk := (if 0 ≤ x.hold ∧ Rf.inText x.st.pl then x.adds P x.hold.toNat P.size else x).flush.out
def Rf.tokens (s : ByteArray) : List Tk := Rf.done (Rd.page s) (Rf.run (Rd.page s) Rf.start 0 (Rd.lines s.data.toList))

/-- what is held: nothing, or one of four names -/
structure Ts.Fine (s : Ts) : Prop where
  low : s.pl < 19 → s.held = Ts.e
  high : 19 ≤ s.pl → Ts.kind s.held = 2 ∨ Ts.kind s.held = 3 ∨ Ts.kind s.held = 4
theorem Ts.kind_cases (n : ByteArray) : Ts.kind n = 0 ∨ Ts.kind n = 1 ∨ Ts.kind n = 2 ∨ Ts.kind n = 3 ∨ Ts.kind n = 4 := by
  unfold Ts.kind
  dsimp only
  repeat' split
  all_goals simp
theorem Ts.fine_to (t : Ts) (a : Int) (h : 19 ≤ a → Ts.kind t.held = 2 ∨ Ts.kind t.held = 3 ∨ Ts.kind t.held = 4) : Ts.Fine (t.to a) := by
  refine ⟨fun q => ?_, fun q => ?_⟩
  · have q : a < 19 := q
    show (if 19 ≤ a then t.held else Ts.e) = Ts.e
    rw [if_neg (by omega)]
  · have q : 19 ≤ a := q
    show Ts.kind (if 19 ≤ a then t.held else Ts.e) = 2 ∨ Ts.kind (if 19 ≤ a then t.held else Ts.e) = 3 ∨ Ts.kind (if 19 ≤ a then t.held else Ts.e) = 4
    rw [if_pos q]
    exact h q
theorem Ts.fine_closed (t : Ts) : Ts.Fine t.closed := by
  unfold Ts.closed
  split
  · exact Ts.fine_to t 0 (fun q => absurd q (by decide))
  · next h =>
    refine Ts.fine_to _ 19 (fun _ => ?_)
    show Ts.kind t.name = 2 ∨ Ts.kind t.name = 3 ∨ Ts.kind t.name = 4
    rcases Ts.kind_cases t.name with e | e | e
    · exact absurd (Or.inr (Or.inl e)) h
    · exact absurd (Or.inr (Or.inr e)) h
    · exact e
theorem Ts.fine_of {t u : Ts} (h : Ts.Fine t) (h1 : u.pl = t.pl) (h2 : u.held = t.held) : Ts.Fine u := ⟨fun q => by rw [h2]; exact h.low (by omega), fun q => by rw [h2]; exact h.high (by omega)⟩
theorem Ts.Fine.step {s : Ts} (h : Ts.Fine s) (c : UInt8) (k : Nat) (hk : s.pl = (k : Int)) (hk23 : k < 23) : Ts.Fine (s.step c) := by
  rw [Ts.step_at s c k hk hk23]
  have ht : Ts.Fine (s.to k) := Ts.fine_to s k (fun q => h.high (by omega))
  have hh : 19 ≤ k → Ts.kind (s.to k).held = 2 ∨ Ts.kind (s.to k).held = 3 ∨ Ts.kind (s.to k).held = 4 := fun q => ht.high (by show 19 ≤ (k : Int); omega)
  have hp : (s.to k).pl = (k : Int) := rfl
  generalize s.to k = t at *
  have hlow : ∀ a : Int, a < 19 → Ts.Fine (t.to a) := fun a ha => Ts.fine_to t a (fun q => by omega)
  have hcl := Ts.fine_closed t
  have hot : ∀ u : Ts, u.pl = 3 → u.held = (t.to 3).held → Ts.Fine u := fun u h1 h2 => Ts.fine_of (hlow 3 (by decide)) h1 h2
  have hoa : ∀ u : Ts, u.pl = 5 → u.held = (t.to 5).held → Ts.Fine u := fun u h1 h2 => Ts.fine_of (hlow 5 (by decide)) h1 h2
  have hsm : ∀ u : Ts, u.pl = t.pl → u.held = t.held → Ts.Fine u := fun u h1 h2 => Ts.fine_of ht h1 h2
  have hhi : ∀ a : Int, 19 ≤ k → Ts.Fine (t.to a) := fun a q => Ts.fine_to t a (fun _ => hh q)
  by_cases hk19 : k < 19
  · have hcase : k = 0 ∨ k = 1 ∨ k = 2 ∨ k = 3 ∨ k = 4 ∨ k = 5 ∨ k = 6 ∨ k = 7 ∨ k = 8 ∨ k = 9 ∨ k = 10 ∨ k = 11 ∨ k = 12 ∨ k = 13 ∨ k = 14 ∨ k = 15 ∨ k = 16 ∨ k = 17 ∨ k = 18 := by omega
    clear hh hhi
    rcases hcase with e | e | e | e | e | e | e | e | e | e | e | e | e | e | e | e | e | e | e
    all_goals subst e
    · show Ts.Fine (t.data c); unfold Ts.data; repeat' split
      all_goals first | exact ht | exact hlow _ (by decide)
    · show Ts.Fine (t.tagOpen c); unfold Ts.tagOpen; repeat' split
      all_goals first | exact ht | exact hlow _ (by decide) | exact hot _ rfl rfl
    · show Ts.Fine (t.endOpen c); unfold Ts.endOpen; repeat' split
      all_goals first | exact ht | exact hlow _ (by decide) | exact hot _ rfl rfl
    · show Ts.Fine (t.tagName c); unfold Ts.tagName; repeat' split
      all_goals first | exact ht | exact hlow _ (by decide) | exact hcl | exact hsm _ rfl rfl
    · show Ts.Fine (t.beforeAttr c); unfold Ts.beforeAttr; repeat' split
      all_goals first | exact ht | exact hlow _ (by decide) | exact hcl | exact hoa _ rfl rfl
    · show Ts.Fine (t.attrName c); unfold Ts.attrName; repeat' split
      all_goals first | exact ht | exact hlow _ (by decide) | exact hcl | exact hsm _ rfl rfl
    · show Ts.Fine (t.afterName c); unfold Ts.afterName; repeat' split
      all_goals first | exact ht | exact hlow _ (by decide) | exact hcl | exact hoa _ rfl rfl
    · show Ts.Fine (t.beforeValue c); unfold Ts.beforeValue; repeat' split
      all_goals first | exact ht | exact hlow _ (by decide) | exact hcl
    · show Ts.Fine (Ts.quoted 34 t c); unfold Ts.quoted; repeat' split
      all_goals first | exact ht | exact hlow _ (by decide)
    · show Ts.Fine (Ts.quoted 39 t c); unfold Ts.quoted; repeat' split
      all_goals first | exact ht | exact hlow _ (by decide)
    · show Ts.Fine (t.bare c); unfold Ts.bare; repeat' split
      all_goals first | exact ht | exact hlow _ (by decide) | exact hcl
    · show Ts.Fine (t.afterValue c); unfold Ts.afterValue; repeat' split
      all_goals first | exact ht | exact hlow _ (by decide) | exact hcl | exact hoa _ rfl rfl
    · show Ts.Fine (t.selfClose c); unfold Ts.selfClose; repeat' split
      all_goals first | exact ht | exact hlow _ (by decide) | exact hcl | exact hoa _ rfl rfl
    · show Ts.Fine (t.bang c); unfold Ts.bang; repeat' split
      all_goals exact hlow _ (by decide)
    · show Ts.Fine (t.bangDash c); unfold Ts.bangDash; repeat' split
      all_goals exact hlow _ (by decide)
    · show Ts.Fine (t.comment c); unfold Ts.comment; repeat' split
      all_goals first | exact ht | exact hlow _ (by decide)
    · show Ts.Fine (t.commentDash c); unfold Ts.commentDash; repeat' split
      all_goals exact hlow _ (by decide)
    · show Ts.Fine (t.commentEnd c); unfold Ts.commentEnd; repeat' split
      all_goals first | exact ht | exact hlow _ (by decide)
    · show Ts.Fine (t.bogus c); unfold Ts.bogus; repeat' split
      all_goals first | exact ht | exact hlow _ (by decide)
  · have hk19 : 19 ≤ k := by omega
    have hto : ∀ a : Int, Ts.Fine (t.to a) := fun a => hhi a hk19
    have hon : Ts.Fine (t.heldOn c) := by unfold Ts.heldOn; split <;> exact hto _
    have hend : ∀ a : Int, a < 19 → Ts.Fine (t.heldEnd a) := fun a ha => by unfold Ts.heldEnd; exact Ts.fine_to _ a (fun q => by omega)
    have hcase : k = 19 ∨ k = 20 ∨ k = 21 ∨ k = 22 := by omega
    rcases hcase with e | e | e | e
    all_goals subst e
    · show Ts.Fine (t.heldS c); unfold Ts.heldS; split
      all_goals first | exact ht | exact hto _
    · show Ts.Fine (t.heldLt c); unfold Ts.heldLt; repeat' split
      all_goals first | exact ht | exact hto _
    · show Ts.Fine (t.heldSlash c); unfold Ts.heldSlash; split
      · exact Ts.fine_of (hto 22) rfl rfl
      · exact hon
    · show Ts.Fine (t.heldName c); unfold Ts.heldName; repeat' split
      all_goals first | exact hsm _ rfl rfl | exact hon | exact hend _ (by decide) | exact hto _
end Go.Proofs.YtblpkjlodncpeaaGreatDoor
/-
  THE WALKS of refs.digit, refs.signOf and refs.numbered: each call returns what the plain function of the bytes gives, and turns nothing.
-/
namespace Go.Proofs.YtblpkjlodncpeaaGreatDoor
open Go.RowKit

theorem Pl.dig_eq (c : UInt8) (k : Nat) (hk : c.toNat = k) : Pl.dig c = if 48 ≤ k ∧ k ≤ 57 then k - 48 else if 97 ≤ k ∧ k ≤ 102 then k - 87 else if 65 ≤ k ∧ k ≤ 70 then k - 55 else 16 := by
  subst hk; rfl

set_option maxHeartbeats 1000000 in
theorem Rd.digit (c : UInt8) (w : World) :
    Calls Tryz.prog 161 #[.int .u8 c.toNat] w fun e w' => e = .returned (.int .i64 (Pl.dig c : Nat)) ∧ w' = w := by
  have hc := c.toNat_lt
  obtain ⟨k, hk⟩ : ∃ k, c.toNat = k := ⟨_, rfl⟩
  have hl := Pl.dig_eq c k hk
  rw [hk] at hc ⊢
  generalize Pl.dig c = m at *
  clear hk
  by_cases h0 : 48 ≤ k
  · by_cases h1 : k ≤ 57
    · rw [if_pos ⟨h0, h1⟩] at hl
      subst hl
      go_enter Tryz.func161, Tryz.ntmps161
      go_wp2
      go_ret
      exact ⟨by simp; omega, rfl⟩
    · rw [if_neg (by omega)] at hl
      by_cases h2 : 97 ≤ k
      · by_cases h3 : k ≤ 102
        · rw [if_pos ⟨h2, h3⟩] at hl
          subst hl
          go_enter Tryz.func161, Tryz.ntmps161
          go_wp2
          go_ret
          exact ⟨by simp; omega, rfl⟩
        · rw [if_neg (by omega), if_neg (by omega)] at hl
          subst hl
          go_enter Tryz.func161, Tryz.ntmps161
          go_wp2
          go_ret
          exact ⟨rfl, rfl⟩
      · rw [if_neg (by omega)] at hl
        by_cases h4 : 65 ≤ k
        · by_cases h5 : k ≤ 70
          · rw [if_pos ⟨h4, h5⟩] at hl
            subst hl
            go_enter Tryz.func161, Tryz.ntmps161
            go_wp2
            go_ret
            exact ⟨by simp; omega, rfl⟩
          · rw [if_neg (by omega)] at hl
            subst hl
            go_enter Tryz.func161, Tryz.ntmps161
            go_wp2
            go_ret
            exact ⟨rfl, rfl⟩
        · rw [if_neg (by omega)] at hl
          subst hl
          go_enter Tryz.func161, Tryz.ntmps161
          go_wp2
          go_ret
          exact ⟨rfl, rfl⟩
  · rw [if_neg (by omega), if_neg (by omega), if_neg (by omega)] at hl
    subst hl
    go_enter Tryz.func161, Tryz.ntmps161
    go_wp2
    go_ret
    exact ⟨rfl, rfl⟩

/-- the model's text of a rune is the plain one -/
theorem Rd.encode (x : Nat) (h0 : x ≠ 0) : Utf8.encode (x : Int) = ⟨(Pl.runeL x).toArray⟩ := by
  by_cases hv : Utf8.valid (x : Int) = true
  · have hb : ¬ (x = 0 ∨ (55296 ≤ x ∧ x ≤ 57343) ∨ 1114111 < x) := by
      simp only [Utf8.valid, Bool.or_eq_true, Bool.and_eq_true, decide_eq_true_eq] at hv
      omega
    unfold Utf8.encode Pl.runeL
    rw [if_neg hb]
    simp only [hv, if_true, Int.toNat_natCast]
    repeat' split
    all_goals rfl
  · have hb : x = 0 ∨ (55296 ≤ x ∧ x ≤ 57343) ∨ 1114111 < x := by
      simp only [Utf8.valid, Bool.or_eq_true, Bool.and_eq_true, decide_eq_true_eq] at hv
      omega
    unfold Utf8.encode Pl.runeL
    rw [if_pos hb]
    have hv' : Utf8.valid (x : Int) = false := by simpa using hv
    simp only [hv', Bool.false_eq_true, if_false]
    rfl

set_option maxHeartbeats 1000000 in
theorem Rd.signOf (x : Nat) (hx : x < 2147483648) (w : World) :
    Calls Tryz.prog 162 #[.int .i64 (x : Int)] w fun e w' => e = .returned (.string ⟨(Pl.runeL x).toArray⟩) ∧ w' = w := by
  by_cases h0 : x = 0
  · subst h0
    go_enter Tryz.func162, Tryz.ntmps162
    go_wp2
    go_ret
    exact ⟨rfl, rfl⟩
  · have hz : ((x : Int) == 0) = false := beq_eq_false_iff_ne.2 (by omega)
    have he := Rd.encode x h0
    generalize (⟨(Pl.runeL x).toArray⟩ : ByteArray) = r at *
    go_enter Tryz.func162, Tryz.ntmps162
    go_wp2
    go_ret
    exact ⟨rfl, rfl⟩

theorem Rd.drop_cons (s : ByteArray) (k : Nat) (h : k < s.size) : s.data.toList.drop k = s[k] :: s.data.toList.drop (k + 1) := by
  have h' : k < s.data.toList.length := by rw [Array.length_toList]; exact h
  rw [List.drop_eq_getElem_cons h']
  rfl
theorem Rd.get_at (s : ByteArray) (k : Nat) (h : k < s.size) : s.data.toList[k]? = some s[k] := by
  have h' : k < s.data.toList.length := by rw [Array.length_toList]; exact h
  rw [List.getElem?_eq_getElem h']
  rfl
theorem Rd.get_end (s : ByteArray) (k : Nat) (h : s.size ≤ k) : s.data.toList[k]? = none := by
  rw [List.getElem?_eq_none]
  rw [Array.length_toList]; exact h
theorem Rd.scan_end (base m : Nat) (s : ByteArray) (k x : Nat) (h : s.size ≤ k) : Pl.scan base m (s.data.toList.drop k) x k = (x, k) := by
  rw [List.drop_of_length_le (by rw [Array.length_toList]; exact h)]
  cases m <;> rfl
theorem Rd.scan_zero (base m : Nat) (l : List UInt8) (k x : Nat) (h : m = 0) : Pl.scan base m l x k = (x, k) := by
  subst h; rfl
theorem Rd.scan_stop (base m : Nat) (s : ByteArray) (k x d : Nat) (h : k < s.size) (hd : Pl.dig s[k] = d) (hb : base ≤ d) : Pl.scan base m (s.data.toList.drop k) x k = (x, k) := by
  rw [Rd.drop_cons s k h]
  cases m with
  | zero => rfl
  | succ m => rw [Pl.scan, if_neg (by omega)]
theorem Rd.scan_go (base m m' : Nat) (s : ByteArray) (k x d : Nat) (h : k < s.size) (hd : Pl.dig s[k] = d) (hb : d < base) (hm : m = m' + 1) : Pl.scan base m (s.data.toList.drop k) x k = Pl.scan base m' (s.data.toList.drop (k + 1)) (x * base + d) (k + 1) := by
  subst hm
  rw [Rd.drop_cons s k h, Pl.scan, if_pos (by omega), hd]
theorem Rd.num_none (l : List UInt8) (start base most x k : Nat) (h : Pl.scan base most (l.drop start) 0 start = (x, k)) (hn : k = start ∨ l[k]? ≠ some 59) : Pl.numL l start base most = ([], 0) := by
  unfold Pl.numL
  rw [h]
  exact if_pos hn
theorem Rd.num_some (l : List UInt8) (start base most x k : Nat) (h : Pl.scan base most (l.drop start) 0 start = (x, k)) (h0 : k ≠ start) (hn : l[k]? = some 59) : Pl.numL l start base most = (Pl.runeL x, k + 1) := by
  unfold Pl.numL
  rw [h]
  exact if_neg (by rintro (e | e); exact h0 e; exact e hn)
theorem Rd.ret_pair {p q : List UInt8 × Nat} (h : p = q) : Ending.returned (.tuple #[.string ⟨p.1.toArray⟩, .int .i64 (p.2 : Nat)]) = .returned (.tuple #[.string ⟨q.1.toArray⟩, .int .i64 (q.2 : Nat)]) := by rw [h]
theorem Rd.pow (b x j d : Nat) (h : x < b ^ j) (hd : d < b) : x * b + d < b ^ (j + 1) := by
  have : (x + 1) * b ≤ b ^ j * b := Nat.mul_le_mul_right b h
  rw [Nat.pow_succ]
  rw [Nat.add_mul] at this
  omega
theorem Rd.pow_le (b x j m : Nat) (h : x < b ^ j) (hb : 0 < b) (hm : j ≤ m) : x < b ^ m := Nat.lt_of_lt_of_le h (Nat.pow_le_pow_right hb hm)
theorem Rd.ne59 (c : UInt8) (n : Nat) (hc : c.toNat = n) (h : n ≠ 59) : some c ≠ some 59 := by
  intro e
  simp only [Option.some.injEq] at e
  subst e
  exact h hc.symm
theorem Rd.is59 (c : UInt8) (n : Nat) (hc : c.toNat = n) (h : n = 59) : some c = some 59 := by
  have : c = 59 := UInt8.toNat_inj.1 (by rw [hc, h]; rfl)
  rw [this]

set_option maxRecDepth 100000 in
set_option maxHeartbeats 4000000 in
theorem Rd.hexed (s : ByteArray) (w : World) (h0 : 2 ≤ s.size) :
    Calls Tryz.prog 138 #[.string s, .int .i64 2, .int .i64 16, .int .i64 6] w fun e w' => e = .returned (.tuple #[.string ⟨(Pl.numL s.data.toList 2 16 6).1.toArray⟩, .int .i64 ((Pl.numL s.data.toList 2 16 6).2 : Nat)]) ∧ w' = w := by
  go_enter Tryz.func138, Tryz.ntmps138
  go_wp2
  go_loop [10, 11] (fun v i => ∃ x k : Nat, 2 ≤ k ∧ k ≤ s.size ∧ k ≤ 8 ∧ v = .int .i64 x ∧ i = .int .i64 k ∧ x < 16 ^ (k - 2) ∧ Hid (Pl.scan 16 (8 - k) (s.data.toList.drop k) x k = Pl.scan 16 6 (s.data.toList.drop 2) 0 2)) (fun _ i => 8 - (intOf i).toNat)
  case atStart => exact ⟨0, 2, by omega, h0, by omega, rfl, rfl, by decide, rfl⟩
  case round =>
    obtain ⟨x, k, hk0, hk1, hk2, rfl, rfl, hx0, HE⟩ := hrel
    have hx : x < 16777216 := Rd.pow_le 16 x (k - 2) 6 hx0 (by decide) (by omega)
    have HX : Hid (x < 16 ^ (k - 2)) := hx0
    clear hx0
    by_cases hlt : k < s.size
    · obtain ⟨d, hd⟩ : ∃ d, Pl.dig s[k] = d := ⟨_, rfl⟩
      obtain ⟨n, hn⟩ : ∃ n, s[k].toNat = n := ⟨_, rfl⟩
      have hd16 : d ≤ 16 := by rw [← hd]; exact Pl.dig_le _
      have cd := Rd.digit s[k] w
      rw [hd, hn] at cd
      have HD : Hid (Pl.dig s[k] = d) := hd
      clear hd
      by_cases hm : k < 8
      · by_cases hb : d < 16
        · have hb1 : decide ((16 : Int) ≤ (d : Int)) = false := decide_eq_false (by omega)
          have HP := Rd.pow 16 x (k - 2) d HX.out hb
          have HG := Rd.scan_go 16 (8 - k) (8 - (k + 1)) s k x d hlt HD.out hb (by omega)
          have HN : Hid (Pl.scan 16 (8 - (k + 1)) (s.data.toList.drop (k + 1)) (x * 16 + d) (k + 1) = Pl.scan 16 6 (s.data.toList.drop 2) 0 2 ∧ x * 16 + d < 16 ^ (k + 1 - 2)) := by
            refine ⟨by rw [← HG]; exact HE.out, ?_⟩
            rwa [show k + 1 - 2 = k - 2 + 1 by omega]
          clear HP HG HX HE HD
          go_wp2_with (go_at_call 161; refine cd.mono ?_; rintro e w1 ⟨rfl, rfl⟩)
          go_round
          case rel => exact ⟨x * 16 + d, k + 1, by omega, by omega, by omega, by go_num, by go_num, HN.out.2, HN.out.1⟩
          case measure => simp [intOf]; omega
        · have hb1 : decide ((16 : Int) ≤ (d : Int)) = true := decide_eq_true (by omega)
          have HS : Hid (Pl.scan 16 (8 - k) (s.data.toList.drop k) x k = (x, k)) := Rd.scan_stop _ _ s k x d hlt HD.out (by omega)
          clear HX HD
          by_cases e0 : k = 2
          · have b0 : ((k : Int) == 2) = true := beq_iff_eq.2 (by omega)
            have E0 : Hid (k = 2) := e0
            clear e0
            go_wp2_with (go_at_call 161; refine cd.mono ?_; rintro e w1 ⟨rfl, rfl⟩)
            go_ret2
            exact ⟨Rd.ret_pair (Rd.num_none _ _ _ _ _ _ (HE.out.symm.trans HS.out) (by exact .inl E0.out)).symm, rfl⟩
          · have b0 : ((k : Int) == 2) = false := beq_eq_false_iff_ne.2 (by omega)
            have b1 : ((k : Int) == (s.size : Int)) = false := beq_eq_false_iff_ne.2 (by omega)
            have hg := Rd.get_at s k hlt
            have HG : Hid (s.data.toList[k]? = some s[k]) := hg
            clear hg
            by_cases e1 : n = 59
            · have b2 : ((n : Int) == 59) = true := beq_iff_eq.2 (by omega)
              have E1 : Hid (n = 59) := e1
              clear e1
              go_wp2_with (first | (go_at_call 161; refine cd.mono ?_; rintro e w1 ⟨rfl, rfl⟩) | (go_at_call 162; refine (Rd.signOf x (by omega) _).mono ?_; rintro e w1 ⟨rfl, rfl⟩))
              go_ret2
              refine ⟨Eq.trans ?_ (Rd.ret_pair (Rd.num_some _ _ _ _ _ _ (HE.out.symm.trans HS.out) e0 (by rw [HG.out]; exact Rd.is59 _ n hn E1.out)).symm), rfl⟩
              simp
            · have b2 : ((n : Int) == 59) = false := beq_eq_false_iff_ne.2 (by omega)
              go_wp2_with (go_at_call 161; refine cd.mono ?_; rintro e w1 ⟨rfl, rfl⟩)
              go_ret2
              exact ⟨Rd.ret_pair (Rd.num_none _ _ _ _ _ _ (HE.out.symm.trans HS.out) (by right; rw [HG.out]; exact Rd.ne59 _ n hn e1)).symm, rfl⟩
      · have HS : Hid (Pl.scan 16 (8 - k) (s.data.toList.drop k) x k = (x, k)) := Rd.scan_zero _ _ _ k x (by omega)
        clear HX HD
        by_cases e0 : k = 2
        · have b0 : ((k : Int) == 2) = true := beq_iff_eq.2 (by omega)
          have E0 : Hid (k = 2) := e0
          clear e0
          go_wp2
          go_ret2
          exact ⟨Rd.ret_pair (Rd.num_none _ _ _ _ _ _ (HE.out.symm.trans HS.out) (by exact .inl E0.out)).symm, rfl⟩
        · have b0 : ((k : Int) == 2) = false := beq_eq_false_iff_ne.2 (by omega)
          have b1 : ((k : Int) == (s.size : Int)) = false := beq_eq_false_iff_ne.2 (by omega)
          have hg := Rd.get_at s k hlt
          have HG : Hid (s.data.toList[k]? = some s[k]) := hg
          clear hg
          by_cases e1 : n = 59
          · have b2 : ((n : Int) == 59) = true := beq_iff_eq.2 (by omega)
            have E1 : Hid (n = 59) := e1
            clear e1
            go_wp2_with (first | (go_at_call 161; refine cd.mono ?_; rintro e w1 ⟨rfl, rfl⟩) | (go_at_call 162; refine (Rd.signOf x (by omega) _).mono ?_; rintro e w1 ⟨rfl, rfl⟩))
            go_ret2
            refine ⟨Eq.trans ?_ (Rd.ret_pair (Rd.num_some _ _ _ _ _ _ (HE.out.symm.trans HS.out) e0 (by rw [HG.out]; exact Rd.is59 _ n hn E1.out)).symm), rfl⟩
            simp
          · have b2 : ((n : Int) == 59) = false := beq_eq_false_iff_ne.2 (by omega)
            go_wp2
            go_ret2
            exact ⟨Rd.ret_pair (Rd.num_none _ _ _ _ _ _ (HE.out.symm.trans HS.out) (by right; rw [HG.out]; exact Rd.ne59 _ n hn e1)).symm, rfl⟩
    · have HS : Hid (Pl.scan 16 (8 - k) (s.data.toList.drop k) x k = (x, k)) := Rd.scan_end _ _ s k x (by omega)
      clear HX
      by_cases e0 : k = 2
      · have b0 : ((k : Int) == 2) = true := beq_iff_eq.2 (by omega)
        have E0 : Hid (k = 2) := e0
        clear e0
        go_wp2
        go_ret2
        exact ⟨Rd.ret_pair (Rd.num_none _ _ _ _ _ _ (HE.out.symm.trans HS.out) (by exact .inl E0.out)).symm, rfl⟩
      · have b0 : ((k : Int) == 2) = false := beq_eq_false_iff_ne.2 (by omega)
        have b1 : ((k : Int) == (s.size : Int)) = true := beq_iff_eq.2 (by omega)
        go_wp2
        go_ret2
        exact ⟨Rd.ret_pair (Rd.num_none _ _ _ _ _ _ (HE.out.symm.trans HS.out) (by right; rw [Rd.get_end s k (by omega)]; exact fun h => by cases h)).symm, rfl⟩

set_option maxRecDepth 100000 in
set_option maxHeartbeats 4000000 in
theorem Rd.tens (s : ByteArray) (w : World) (h0 : 1 ≤ s.size) :
    Calls Tryz.prog 138 #[.string s, .int .i64 1, .int .i64 10, .int .i64 7] w fun e w' => e = .returned (.tuple #[.string ⟨(Pl.numL s.data.toList 1 10 7).1.toArray⟩, .int .i64 ((Pl.numL s.data.toList 1 10 7).2 : Nat)]) ∧ w' = w := by
  go_enter Tryz.func138, Tryz.ntmps138
  go_wp2
  go_loop [10, 11] (fun v i => ∃ x k : Nat, 1 ≤ k ∧ k ≤ s.size ∧ k ≤ 8 ∧ v = .int .i64 x ∧ i = .int .i64 k ∧ x < 10 ^ (k - 1) ∧ Hid (Pl.scan 10 (8 - k) (s.data.toList.drop k) x k = Pl.scan 10 7 (s.data.toList.drop 1) 0 1)) (fun _ i => 8 - (intOf i).toNat)
  case atStart => exact ⟨0, 1, by omega, h0, by omega, rfl, rfl, by decide, rfl⟩
  case round =>
    obtain ⟨x, k, hk0, hk1, hk2, rfl, rfl, hx0, HE⟩ := hrel
    have hx : x < 10000000 := Rd.pow_le 10 x (k - 1) 7 hx0 (by decide) (by omega)
    have HX : Hid (x < 10 ^ (k - 1)) := hx0
    clear hx0
    by_cases hlt : k < s.size
    · obtain ⟨d, hd⟩ : ∃ d, Pl.dig s[k] = d := ⟨_, rfl⟩
      obtain ⟨n, hn⟩ : ∃ n, s[k].toNat = n := ⟨_, rfl⟩
      have hd16 : d ≤ 16 := by rw [← hd]; exact Pl.dig_le _
      have cd := Rd.digit s[k] w
      rw [hd, hn] at cd
      have HD : Hid (Pl.dig s[k] = d) := hd
      clear hd
      by_cases hm : k < 8
      · by_cases hb : d < 10
        · have hb1 : decide ((10 : Int) ≤ (d : Int)) = false := decide_eq_false (by omega)
          have HP := Rd.pow 10 x (k - 1) d HX.out hb
          have HG := Rd.scan_go 10 (8 - k) (8 - (k + 1)) s k x d hlt HD.out hb (by omega)
          have HN : Hid (Pl.scan 10 (8 - (k + 1)) (s.data.toList.drop (k + 1)) (x * 10 + d) (k + 1) = Pl.scan 10 7 (s.data.toList.drop 1) 0 1 ∧ x * 10 + d < 10 ^ (k + 1 - 1)) := by
            refine ⟨by rw [← HG]; exact HE.out, ?_⟩
            rwa [show k + 1 - 1 = k - 1 + 1 by omega]
          clear HP HG HX HE HD
          go_wp2_with (go_at_call 161; refine cd.mono ?_; rintro e w1 ⟨rfl, rfl⟩)
          go_round
          case rel => exact ⟨x * 10 + d, k + 1, by omega, by omega, by omega, by go_num, by go_num, HN.out.2, HN.out.1⟩
          case measure => simp [intOf]; omega
        · have hb1 : decide ((10 : Int) ≤ (d : Int)) = true := decide_eq_true (by omega)
          have HS : Hid (Pl.scan 10 (8 - k) (s.data.toList.drop k) x k = (x, k)) := Rd.scan_stop _ _ s k x d hlt HD.out (by omega)
          clear HX HD
          by_cases e0 : k = 1
          · have b0 : ((k : Int) == 1) = true := beq_iff_eq.2 (by omega)
            have E0 : Hid (k = 1) := e0
            clear e0
            go_wp2_with (go_at_call 161; refine cd.mono ?_; rintro e w1 ⟨rfl, rfl⟩)
            go_ret2
            exact ⟨Rd.ret_pair (Rd.num_none _ _ _ _ _ _ (HE.out.symm.trans HS.out) (by exact .inl E0.out)).symm, rfl⟩
          · have b0 : ((k : Int) == 1) = false := beq_eq_false_iff_ne.2 (by omega)
            have b1 : ((k : Int) == (s.size : Int)) = false := beq_eq_false_iff_ne.2 (by omega)
            have hg := Rd.get_at s k hlt
            have HG : Hid (s.data.toList[k]? = some s[k]) := hg
            clear hg
            by_cases e1 : n = 59
            · have b2 : ((n : Int) == 59) = true := beq_iff_eq.2 (by omega)
              have E1 : Hid (n = 59) := e1
              clear e1
              go_wp2_with (first | (go_at_call 161; refine cd.mono ?_; rintro e w1 ⟨rfl, rfl⟩) | (go_at_call 162; refine (Rd.signOf x (by omega) _).mono ?_; rintro e w1 ⟨rfl, rfl⟩))
              go_ret2
              refine ⟨Eq.trans ?_ (Rd.ret_pair (Rd.num_some _ _ _ _ _ _ (HE.out.symm.trans HS.out) e0 (by rw [HG.out]; exact Rd.is59 _ n hn E1.out)).symm), rfl⟩
              simp
            · have b2 : ((n : Int) == 59) = false := beq_eq_false_iff_ne.2 (by omega)
              go_wp2_with (go_at_call 161; refine cd.mono ?_; rintro e w1 ⟨rfl, rfl⟩)
              go_ret2
              exact ⟨Rd.ret_pair (Rd.num_none _ _ _ _ _ _ (HE.out.symm.trans HS.out) (by right; rw [HG.out]; exact Rd.ne59 _ n hn e1)).symm, rfl⟩
      · have HS : Hid (Pl.scan 10 (8 - k) (s.data.toList.drop k) x k = (x, k)) := Rd.scan_zero _ _ _ k x (by omega)
        clear HX HD
        by_cases e0 : k = 1
        · have b0 : ((k : Int) == 1) = true := beq_iff_eq.2 (by omega)
          have E0 : Hid (k = 1) := e0
          clear e0
          go_wp2
          go_ret2
          exact ⟨Rd.ret_pair (Rd.num_none _ _ _ _ _ _ (HE.out.symm.trans HS.out) (by exact .inl E0.out)).symm, rfl⟩
        · have b0 : ((k : Int) == 1) = false := beq_eq_false_iff_ne.2 (by omega)
          have b1 : ((k : Int) == (s.size : Int)) = false := beq_eq_false_iff_ne.2 (by omega)
          have hg := Rd.get_at s k hlt
          have HG : Hid (s.data.toList[k]? = some s[k]) := hg
          clear hg
          by_cases e1 : n = 59
          · have b2 : ((n : Int) == 59) = true := beq_iff_eq.2 (by omega)
            have E1 : Hid (n = 59) := e1
            clear e1
            go_wp2_with (first | (go_at_call 161; refine cd.mono ?_; rintro e w1 ⟨rfl, rfl⟩) | (go_at_call 162; refine (Rd.signOf x (by omega) _).mono ?_; rintro e w1 ⟨rfl, rfl⟩))
            go_ret2
            refine ⟨Eq.trans ?_ (Rd.ret_pair (Rd.num_some _ _ _ _ _ _ (HE.out.symm.trans HS.out) e0 (by rw [HG.out]; exact Rd.is59 _ n hn E1.out)).symm), rfl⟩
            simp
          · have b2 : ((n : Int) == 59) = false := beq_eq_false_iff_ne.2 (by omega)
            go_wp2
            go_ret2
            exact ⟨Rd.ret_pair (Rd.num_none _ _ _ _ _ _ (HE.out.symm.trans HS.out) (by right; rw [HG.out]; exact Rd.ne59 _ n hn e1)).symm, rfl⟩
    · have HS : Hid (Pl.scan 10 (8 - k) (s.data.toList.drop k) x k = (x, k)) := Rd.scan_end _ _ s k x (by omega)
      clear HX
      by_cases e0 : k = 1
      · have b0 : ((k : Int) == 1) = true := beq_iff_eq.2 (by omega)
        have E0 : Hid (k = 1) := e0
        clear e0
        go_wp2
        go_ret2
        exact ⟨Rd.ret_pair (Rd.num_none _ _ _ _ _ _ (HE.out.symm.trans HS.out) (by exact .inl E0.out)).symm, rfl⟩
      · have b0 : ((k : Int) == 1) = false := beq_eq_false_iff_ne.2 (by omega)
        have b1 : ((k : Int) == (s.size : Int)) = true := beq_iff_eq.2 (by omega)
        go_wp2
        go_ret2
        exact ⟨Rd.ret_pair (Rd.num_none _ _ _ _ _ _ (HE.out.symm.trans HS.out) (by right; rw [Rd.get_end s k (by omega)]; exact fun h => by cases h)).symm, rfl⟩

end Go.Proofs.YtblpkjlodncpeaaGreatDoor

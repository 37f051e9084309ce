/-
  PLAIN: blocks one within the other.
-/
import Derived.Test.YtjppobeomocgbaaGreatDoorTMPlaintoISame
import Derived.Test.YtjppobeomocgbaaGreatDoorTMSametoMRow1
import Derived.KernelRfl
namespace Go.Proofs.YtjppobeomocgbaaGreatDoor
/-- the names that begin a block -/
def Mn.name : Nat → List UInt8
  | 0 => Tm.sIf
  | 1 => Tm.sWith
  | _ => Tm.sRange
def Mn.open (q : Nat) : List UInt8 := Mn.name q ++ [32, 46]
def Mn.ek (other : Bool) : List (Bool × List UInt8) := if other = true then [(true, Tm.sElse), (false, [121]), (true, Tm.sEnd)] else [(true, Tm.sEnd)]
/-- the pieces of k blocks, one within the other -/
def Mn.keys (q : Nat) (other : Bool) : Nat → List (Bool × List UInt8)
  | 0 => [(false, [120])]
  | j + 1 => (true, Mn.open q) :: (Mn.keys q other j ++ Mn.ek other)
/-- their item -/
def Mn.item (q : Nat) (other : Bool) : Nat → It
  | 0 => .mk 0 [120] [] [] []
  | j + 1 => .mk (3 + (q : Int)) [] Mh.dot [Mn.item q other j] (if other = true then [.mk 0 [121] [] [] []] else [])
/-- these pieces stand from i on -/
def Mn.At (ps : List Pc) (i : Nat) (l : List (Bool × List UInt8)) : Prop := ∀ j x, l[j]? = some x → (ps[i + j]?).map Pc.key = some x
theorem Mn.At.head {ps : List Pc} {i : Nat} {x : Bool × List UInt8} {l : List (Bool × List UInt8)} (h : Mn.At ps i (x :: l)) : (ps[i]?).map Pc.key = some x ∧ Mn.At ps (i + 1) l :=
  ⟨h 0 x rfl, fun j y hj => by rw [Nat.add_assoc, Nat.add_comm 1]; exact h (j + 1) y hj⟩
theorem Mn.At.app {ps : List Pc} {i : Nat} {l m : List (Bool × List UInt8)} (h : Mn.At ps i (l ++ m)) : Mn.At ps i l ∧ Mn.At ps (i + l.length) m :=
  ⟨fun j y hj => h j y (by rw [List.getElem?_append_left (List.getElem?_eq_some_iff.1 hj).1]; exact hj), fun j y hj => by
    rw [Nat.add_assoc]
    exact h (l.length + j) y (by rw [List.getElem?_append_right (by omega), Nat.add_sub_cancel_left]; exact hj)⟩
theorem Mn.words (q : Nat) (hq : q < 3) : (Wx.words ⟨(Mn.open q).toArray⟩).2 = 0 ∧ (Wx.words ⟨(Mn.open q).toArray⟩).1.isEmpty = false ∧ Tm.first (Wx.words ⟨(Mn.open q).toArray⟩).1 = Mn.name q ∧ Pi.parse (((Wx.words ⟨(Mn.open q).toArray⟩).1.drop 1).map Wo.wi) = (Mh.dot, 0) :=
  match q, hq with
  | 0, _ => ⟨by kernel_rfl, by kernel_rfl, by kernel_rfl, by kernel_rfl⟩
  | 1, _ => ⟨by kernel_rfl, by kernel_rfl, by kernel_rfl, by kernel_rfl⟩
  | 2, _ => ⟨by kernel_rfl, by kernel_rfl, by kernel_rfl, by kernel_rfl⟩
  | n + 3, h => absurd h (by omega)
theorem Mn.elseW : (Wx.words ⟨Tm.sElse.toArray⟩).2 = 0 ∧ (Wx.words ⟨Tm.sElse.toArray⟩).1.length = 1 ∧ Tm.first (Wx.words ⟨Tm.sElse.toArray⟩).1 = Tm.sElse := ⟨by kernel_rfl, by kernel_rfl, by kernel_rfl⟩
theorem Mn.endW : (Wx.words ⟨Tm.sEnd.toArray⟩).2 = 0 ∧ (Wx.words ⟨Tm.sEnd.toArray⟩).1.length = 1 ∧ Tm.first (Wx.words ⟨Tm.sEnd.toArray⟩).1 = Tm.sEnd := ⟨by kernel_rfl, by kernel_rfl, by kernel_rfl⟩
section
variable {ps : List Pc} {n deep i q : Nat} {loop : Bool} {out : List It}
theorem Mn.else_at (h : (ps[i]?).map Pc.key = some (true, Tm.sElse)) : Tm.rows ps (n + 1) deep loop i out = .ok (out, 1, i + 1) := by
  obtain ⟨h1, h2, h3⟩ := Mn.elseW
  cases hp : ps[i]? with
  | none => rw [hp] at h; cases h
  | some p =>
    rw [hp] at h
    have h := Option.some.inj h
    injection h with e1 e2
    unfold Tm.rows
    rw [hp]
    dsimp only
    rw [if_neg (by rw [e1]; decide), e2, if_neg (by rw [h1]; decide), if_neg (fun e => by rw [e] at h2; cases h2), if_neg (fun e => by rw [h2] at e; exact absurd e.2 (by decide)), h3, if_pos rfl]
theorem Mn.end_at (h : (ps[i]?).map Pc.key = some (true, Tm.sEnd)) : Tm.rows ps (n + 1) deep loop i out = .ok (out, 2, i + 1) := by
  obtain ⟨h1, h2, h3⟩ := Mn.endW
  cases hp : ps[i]? with
  | none => rw [hp] at h; cases h
  | some p =>
    rw [hp] at h
    have h := Option.some.inj h
    injection h with e1 e2
    unfold Tm.rows
    rw [hp]
    dsimp only
    rw [if_neg (by rw [e1]; decide), e2, if_neg (by rw [h1]; decide), if_neg (fun e => by rw [e] at h2; cases h2), if_neg (fun e => by rw [h2] at e; exact absurd e.2 (by decide)), h3, if_neg (by decide), if_pos rfl]
theorem Mn.open_at (hq : q < 3) (h : (ps[i]?).map Pc.key = some (true, Mn.open q)) : Tm.rows ps (n + 1) deep loop i out = match (if 16 ≤ deep then .error 1603 else match Tm.rows ps n (deep + 1) (loop || decide ((3 + (q : Int)) = 5)) (i + 1) [] with
      | .error e => .error e
      | .ok (thn, tag, j) =>
        if tag = 1 then
          match Tm.rows ps n (deep + 1) loop j [] with
          | .error e => .error e
          | .ok (els, tag2, j2) => if tag2 = 1 then .error 1601 else if tag2 = 0 then .error 1600 else .ok (.mk (3 + (q : Int)) [] Mh.dot thn els, j2)
        else if tag = 0 then .error 1600 else .ok (.mk (3 + (q : Int)) [] Mh.dot thn [], j) : Except Int (It × Nat)) with
    | .error e => .error e
    | .ok (x, j) => Tm.rows ps n deep loop j (out ++ [x]) := by
  obtain ⟨h1, h2, h3, h4⟩ := Mn.words q hq
  have h2 : (Wx.words ⟨(Mn.open q).toArray⟩).1 ≠ [] := fun e => by rw [e] at h2; cases h2
  cases hp : ps[i]? with
  | none => rw [hp] at h; cases h
  | some p =>
    rw [hp] at h
    have h := Option.some.inj h
    injection h with e1 e2
    conv => lhs; unfold Tm.rows
    rw [hp]
    dsimp only
    rw [if_neg (by rw [e1]; decide), e2, if_neg (by rw [h1]; decide), if_neg h2]
    generalize Wx.words ⟨(Mn.open q).toArray⟩ = r at *
    have hn : Mn.name q ≠ Tm.sElse ∧ Mn.name q ≠ Tm.sEnd ∧ Mn.name q ≠ Tm.sBreak ∧ Mn.name q ≠ Tm.sCont := by
      match q, hq with
      | 0, _ => decide
      | 1, _ => decide
      | 2, _ => decide
      | n + 3, h => omega
    obtain ⟨n1, n2, n3, n4⟩ := hn
    rw [h3, if_neg (fun e => e.1.elim n1 fun e => e.elim n2 fun e => e.elim n3 n4), if_neg n1, if_neg n2, if_neg (fun e => e.1.elim n3 n4)]
    have hi : Tm.item (fun d l j => Tm.rows ps n d l j []) (Mn.name q) r.1 deep loop (i + 1) = Tm.block (fun d l j => Tm.rows ps n d l j []) (3 + (q : Int)) (r.1.drop 1) deep loop (i + 1) := by
      match q, hq with
      | 0, _ => rfl
      | 1, _ => rfl
      | 2, _ => rfl
      | n + 3, h => omega
    rw [hi]
    unfold Tm.block
    dsimp only
    rw [h4]
    dsimp only
    rw [if_neg (show ¬ ((0 : Int) ≠ 0) by decide)]
    rfl
end
/-- ALL BLOCKS, read as one item -/
theorem Mn.rows {ps : List Pc} {q : Nat} (hq : q < 3) (other : Bool) : ∀ (j n deep i : Nat) (loop : Bool) (out : List It), Mn.At ps i (Mn.keys q other j) → deep + j ≤ 16 → j + 1 ≤ n → Tm.rows ps (n + 1) deep loop i out = Tm.rows ps n deep loop (i + (Mn.keys q other j).length) (out ++ [Mn.item q other j]) := by
  intro j
  induction j with
  | zero =>
    intro n deep i loop out h _ _
    exact Tm.flat_text (h.head).1
  | succ j ih =>
    intro n deep i loop out h hd hn
    obtain ⟨h1, h2⟩ := h.head
    obtain ⟨h3, h4⟩ := h2.app
    obtain ⟨n, rfl⟩ : ∃ m, n = m + 1 + 1 := ⟨n - 2, by omega⟩
    rw [Mn.open_at hq h1, if_neg (by omega), ih (n + 1) (deep + 1) (i + 1) _ [] h3 (by omega) (by omega), List.nil_append]
    have el : i + (Mn.keys q other (j + 1)).length = i + 1 + (Mn.keys q other j).length + (Mn.ek other).length := by
      show i + ((Mn.keys q other j ++ Mn.ek other).length + 1) = _
      rw [List.length_append]
      omega
    rw [el]
    generalize i + 1 + (Mn.keys q other j).length = m at *
    cases other with
    | false =>
      obtain ⟨h5, _⟩ := h4.head
      rw [Mn.end_at h5]
      rfl
    | true =>
      obtain ⟨h5, h6⟩ := h4.head
      obtain ⟨h7, h8⟩ := h6.head
      obtain ⟨h9, _⟩ := h8.head
      rw [Mn.else_at h5]
      dsimp only
      rw [if_pos rfl, Tm.flat_text h7, Mn.end_at h9]
      rfl
/-- TOO DEEP -/
theorem Mn.deep {ps : List Pc} {q : Nat} (hq : q < 3) : ∀ (t n deep i : Nat) (loop : Bool) (out : List It), Mn.At ps i (List.replicate (t + 1) (true, Mn.open q)) → deep + t = 16 → t + 1 ≤ n → Tm.rows ps n deep loop i out = .error 1603 := by
  intro t
  induction t with
  | zero =>
    intro n deep i loop out h hd hn
    obtain ⟨n, rfl⟩ : ∃ m, n = m + 1 := ⟨n - 1, by omega⟩
    rw [Mn.open_at hq (h.head).1, if_pos (by omega)]
  | succ t ih =>
    intro n deep i loop out h hd hn
    obtain ⟨n, rfl⟩ : ∃ m, n = m + 1 := ⟨n - 1, by omega⟩
    rw [List.replicate_succ] at h
    obtain ⟨h1, h2⟩ := h.head
    rw [Mn.open_at hq h1, if_neg (by omega), ih n (deep + 1) (i + 1) _ [] h2 (by omega) (by omega)]
theorem Mn.keys_len {q : Nat} {other : Bool} (j : Nat) : j + 1 ≤ (Mn.keys q other j).length ∧ (Mn.keys q other j).length ≤ 4 * j + 1 := by
  induction j with
  | zero => exact ⟨Nat.le_refl _, Nat.le_refl _⟩
  | succ j ih =>
    have : (Mn.keys q other (j + 1)).length = (Mn.keys q other j).length + (Mn.ek other).length + 1 := by
      show (Mn.keys q other j ++ Mn.ek other).length + 1 = _
      rw [List.length_append]
    have h2 : 1 ≤ (Mn.ek other).length ∧ (Mn.ek other).length ≤ 3 := by cases other <;> decide
    omega
end Go.Proofs.YtjppobeomocgbaaGreatDoor
/-
  PLAIN: texts and actions in their row, one behind the other.
-/
namespace Go.Proofs.YtjppobeomocgbaaGreatDoor
/-- pieces that are read as items, none within another but an empty if -/
inductive Mr.Reads : List (Bool × List UInt8) → List It → Prop where
  | nil : Mr.Reads [] []
  | text {qs : List (Bool × List UInt8)} {xs : List It} (t : List UInt8) : Mr.Reads qs xs → Mr.Reads (qs ++ [(false, t)]) (xs ++ [.mk 0 t [] [] []])
  | act {qs : List (Bool × List UInt8)} {xs : List It} (l : List UInt8) (x : It) : Tm.flat l = some x → Mr.Reads qs xs → Mr.Reads (qs ++ [(true, l)]) (xs ++ [x])
  | blk {qs : List (Bool × List UInt8)} {xs : List It} : Mr.Reads qs xs → Mr.Reads (qs ++ [(true, Mn.open 0), (true, Tm.sEnd)]) (xs ++ [.mk 3 [] Mh.dot [] []])
theorem Mr.rows {qs : List (Bool × List UInt8)} {xs : List It} (h : Mr.Reads qs xs) : ∀ (ps : List Pc) (i : Nat) (out : List It) (n : Nat), Mn.At ps i qs → ∃ m, n ≤ m ∧ Tm.rows ps (n + qs.length) 0 false i out = Tm.rows ps m 0 false (i + qs.length) (out ++ xs) := by
  induction h with
  | nil => intro ps i out n _; exact ⟨n, Nat.le_refl _, by rw [List.append_nil]; rfl⟩
  | @text qs xs t h ih =>
    intro ps i out n ha
    obtain ⟨h1, h2⟩ := ha.app
    obtain ⟨m, hm, hr⟩ := ih ps i out (n + 1) h1
    obtain ⟨m, rfl⟩ : ∃ k, m = k + 1 := ⟨m - 1, by omega⟩
    refine ⟨m, by omega, ?_⟩
    rw [List.length_append, show n + (qs.length + [(false, t)].length) = n + 1 + qs.length by show n + (qs.length + 1) = _; omega, hr, Tm.flat_text (h2.head).1, List.append_assoc]
    rfl
  | @act qs xs l x hx h ih =>
    intro ps i out n ha
    obtain ⟨h1, h2⟩ := ha.app
    obtain ⟨m, hm, hr⟩ := ih ps i out (n + 1) h1
    obtain ⟨m, rfl⟩ : ∃ k, m = k + 1 := ⟨m - 1, by omega⟩
    refine ⟨m, by omega, ?_⟩
    rw [List.length_append, show n + (qs.length + [(true, l)].length) = n + 1 + qs.length by show n + (qs.length + 1) = _; omega, hr, Tm.flat_act (h2.head).1 hx, List.append_assoc]
    rfl
  | @blk qs xs h ih =>
    intro ps i out n ha
    obtain ⟨h1, h2⟩ := ha.app
    obtain ⟨h3, h4⟩ := h2.head
    obtain ⟨h5, _⟩ := h4.head
    obtain ⟨m, hm, hr⟩ := ih ps i out (n + 2) h1
    obtain ⟨m, rfl⟩ : ∃ k, m = k + 1 + 1 := ⟨m - 2, by omega⟩
    refine ⟨m + 1, by omega, ?_⟩
    rw [List.length_append, show n + (qs.length + [(true, Mn.open 0), (true, Tm.sEnd)].length) = n + 2 + qs.length by show n + (qs.length + 2) = _; omega, hr, Mn.open_at (q := 0) (by decide) h3, if_neg (by decide), Mn.end_at h5, ← List.append_assoc]
    rfl
/-- a source of n units, and its items -/
def Mr.S (s : ByteArray) (txt : Bool) (xs : List It) (n : Nat) : Prop :=
  ∃ (us : List Un) (tl : List UInt8), s.data.toList = us.flatMap Un.src ++ tl ∧ (∀ u ∈ us, u.Good) ∧ (∀ c ∈ tl, c ≠ 123 ∧ c ≠ 13) ∧ Mr.Reads (us.flatMap Un.pcs ++ Un.one tl) xs ∧ (txt = !tl.isEmpty) ∧ s.size ≤ 64 * n ∧ (us.flatMap Un.pcs ++ Un.one tl).length ≤ 2 * n
theorem Mr.S.nil : Mr.S ⟨#[]⟩ false [] 0 := ⟨[], [], rfl, fun u hu => (by cases hu), fun c hc => (by cases hc), .nil, rfl, Nat.le_refl _, Nat.le_refl _⟩
theorem Mr.one_d (i : Nat) : Un.one ([116] ++ Mr.d i) = [(false, [116] ++ Mr.d i)] := by
  unfold Un.one
  rw [if_neg (by simp)]
theorem Mr.d_len {i : Nat} (h : i < 40) : (Mr.d i).length ≤ 2 := Dm.digits_len 1 i (by omega)
theorem Mr.d_ne {i : Nat} : ∀ c ∈ Mr.d i, c ≠ 123 ∧ c ≠ 13 ∧ c ≠ 42 := fun c hc => by
  have := Dm.digit i c hc
  exact ⟨fun e => by rw [e] at this; exact absurd this (by decide), fun e => by rw [e] at this; exact absurd this (by decide), fun e => by rw [e] at this; exact absurd this (by decide)⟩
section
variable {s s' : ByteArray} {txt : Bool} {xs : List It} {n i : Nat}
theorem Mr.S.len (h : Mr.S s txt xs n) : s.size ≤ 64 * n := by
  obtain ⟨_, _, _, _, _, _, _, h, _⟩ := h
  exact h
theorem Mr.S.text (h : Mr.S s false xs n) (hi : i < 40) (hs : s'.data.toList = s.data.toList ++ ([116] ++ Mr.d i)) : Mr.S s' true (xs ++ [.mk 0 ([116] ++ Mr.d i) [] [] []]) (n + 1) := by
  obtain ⟨us, tl, h1, h2, h3, h4, h5, h6, h7⟩ := h
  have ht : tl = [] := by
    cases tl with
    | nil => rfl
    | cons a l => cases h5
  subst ht
  have hl := Mr.d_len hi
  rw [show Un.one [] = [] from rfl, List.append_nil] at h4 h7
  refine ⟨us, [116] ++ Mr.d i, by rw [hs, h1, List.append_nil], h2, fun c hc => ?_, (by rw [Mr.one_d]; exact h4.text _), rfl, ?_, ?_⟩
  · rcases List.mem_append.1 hc with hc | hc
    · rw [List.mem_singleton.1 hc]; decide
    · exact ⟨(Mr.d_ne c hc).1, (Mr.d_ne c hc).2.1⟩
  · have := congrArg List.length hs
    simp only [Wk.len_data, List.length_append, List.length_cons, List.length_nil] at this
    omega
  · rw [List.length_append]
    show _ + 1 ≤ _
    omega
theorem Mr.S.com (h : Mr.S s true xs n) (hi : i < 40) (hs : s'.data.toList = s.data.toList ++ ([123, 123] ++ ([47, 42] ++ ([32] ++ Mr.d i ++ [32]) ++ [42, 47]) ++ [125, 125]) ++ ([116] ++ Mr.d i)) : Mr.S s' true (xs ++ [.mk 0 ([116] ++ Mr.d i) [] [] []]) (n + 1) := by
  obtain ⟨us, tl, h1, h2, h3, h4, h5, h6, h7⟩ := h
  have hl := Mr.d_len hi
  have hp : (us ++ ([⟨tl, [47, 42] ++ ([32] ++ Mr.d i ++ [32]) ++ [42, 47], true⟩] : List Un)).flatMap Un.pcs = us.flatMap Un.pcs ++ Un.one tl := by
    rw [List.flatMap_append]
    simp [Un.pcs]
  refine ⟨us ++ [⟨tl, [47, 42] ++ ([32] ++ Mr.d i ++ [32]) ++ [42, 47], true⟩], [116] ++ Mr.d i, ?_, fun u hu => ?_, fun c hc => ?_, (by rw [hp]; exact (show Mr.Reads (us.flatMap Un.pcs ++ Un.one tl ++ [(false, [116] ++ Mr.d i)]) _ from h4.text _)), rfl, ?_, ?_⟩
  · rw [hs, h1, List.flatMap_append]
    simp [Un.src]
  · rcases List.mem_append.1 hu with hu | hu
    · exact h2 u hu
    · rw [List.mem_singleton.1 hu]
      refine Un.comment h3 (fun x hx => ?_) (by simp; omega)
      rcases List.mem_append.1 hx with hx | hx
      · rcases List.mem_append.1 hx with hx | hx
        · rw [List.mem_singleton.1 hx]; decide
        · exact ⟨(Mr.d_ne x hx).2.2, (Mr.d_ne x hx).2.1⟩
      · rw [List.mem_singleton.1 hx]; decide
  · rcases List.mem_append.1 hc with hc | hc
    · rw [List.mem_singleton.1 hc]; decide
    · exact ⟨(Mr.d_ne c hc).1, (Mr.d_ne c hc).2.1⟩
  · have := congrArg List.length hs
    simp only [Wk.len_data, List.length_append, List.length_cons, List.length_nil] at this
    omega
  · rw [hp, List.length_append]
    show _ + 1 ≤ _
    omega
theorem Mr.S.act (h : Mr.S s txt xs n) {l : List UInt8} {x : It} (hg : Mq.good l = true) (hf : Tm.flat l = some x) (hll : l.length ≤ 60) (hs : s'.data.toList = s.data.toList ++ ([123, 123] ++ l ++ [125, 125])) : Mr.S s' false (xs ++ [x]) (n + 1) := by
  obtain ⟨us, tl, h1, h2, h3, h4, h5, h6, h7⟩ := h
  have hp : (us ++ ([⟨tl, l, false⟩] : List Un)).flatMap Un.pcs = us.flatMap Un.pcs ++ Un.one tl ++ [(true, l)] := by
    rw [List.flatMap_append]
    simp [Un.pcs]
  refine ⟨us ++ [⟨tl, l, false⟩], [], ?_, fun u hu => ?_, fun c hc => (by cases hc), by rw [hp, show Un.one [] = [] from rfl, List.append_nil]; exact h4.act l x hf, rfl, ?_, ?_⟩
  · rw [hs, h1, List.flatMap_append]
    simp [Un.src]
  · rcases List.mem_append.1 hu with hu | hu
    · exact h2 u hu
    · rw [List.mem_singleton.1 hu]
      exact Un.act h3 (Mq.act_of hg)
  · have := congrArg List.length hs
    simp only [Wk.len_data, List.length_append, List.length_cons, List.length_nil] at this
    omega
  · rw [hp, show Un.one [] = [] from rfl, List.append_nil, List.length_append]
    show _ + 1 ≤ _
    omega
theorem Mr.S.blk (h : Mr.S s txt xs n) (hs : s'.data.toList = s.data.toList ++ [123, 123, 105, 102, 32, 46, 125, 125, 123, 123, 101, 110, 100, 125, 125]) : Mr.S s' false (xs ++ [.mk 3 [] Mh.dot [] []]) (n + 1) := by
  obtain ⟨us, tl, h1, h2, h3, h4, h5, h6, h7⟩ := h
  have hp : (us ++ ([⟨tl, Mn.open 0, false⟩, ⟨[], Tm.sEnd, false⟩] : List Un)).flatMap Un.pcs = us.flatMap Un.pcs ++ Un.one tl ++ [(true, Mn.open 0), (true, Tm.sEnd)] := by
    rw [List.flatMap_append]
    simp [Un.pcs, Un.one]
  refine ⟨us ++ [⟨tl, Mn.open 0, false⟩, ⟨[], Tm.sEnd, false⟩], [], ?_, fun u hu => ?_, fun c hc => (by cases hc), by rw [hp, show Un.one [] = [] from rfl, List.append_nil]; exact h4.blk, rfl, ?_, ?_⟩
  · rw [hs, h1, List.flatMap_append]
    simp [Un.src, Mn.open, Mn.name, Tm.sIf, Tm.sEnd]
  · rcases List.mem_append.1 hu with hu | hu
    · exact h2 u hu
    · simp only [List.mem_cons, List.not_mem_nil, or_false] at hu
      rcases hu with rfl | rfl
      · exact Un.act h3 (Mq.act_of (by decide))
      · exact Un.act (fun c hc => by cases hc) (Mq.act_of (by decide))
  · have := congrArg List.length hs
    simp only [Wk.len_data, List.length_append, List.length_cons, List.length_nil] at this
    omega
  · rw [hp, show Un.one [] = [] from rfl, List.append_nil, List.length_append]
    show _ + 2 ≤ _
    omega
theorem Mr.S.parse (h : Mr.S s txt xs n) (hn : n ≤ 40) : Tm.parse s = (xs, 0) := by
  obtain ⟨us, tl, h1, h2, h3, h4, h5, h6, h7⟩ := h
  obtain ⟨k1, _⟩ := Un.split h1 h2 h3 (by omega)
  obtain ⟨ps, k3, k4⟩ := k1 (by omega)
  unfold Tm.parse
  rw [k3]
  dsimp only
  rw [if_neg (by decide)]
  generalize us.flatMap Un.pcs ++ Un.one tl = Q at *
  have hpl : ps.length = Q.length := by rw [← k4, List.length_map]
  obtain ⟨m, hm, hr⟩ := Mr.rows h4 ps 0 [] 1 (fun j x hj => by rw [Nat.zero_add, ← List.getElem?_map, k4]; exact hj)
  rw [hpl, Nat.add_comm, hr, List.nil_append, Tm.flat_end (List.getElem?_eq_none (by omega))]
  rfl
end
end Go.Proofs.YtjppobeomocgbaaGreatDoor
/-
  PLAIN: the landed reader of templates: a stack of blocks, piece by piece; it says what the document's rows say.
-/
namespace Go.Proofs.YtjppobeomocgbaaGreatDoor
/-- a block that is open -/
structure Mz.Bk where
  k : Int
  p : List Cm
  thn : List It
  els : List It
  e : Bool
/-- a block's item -/
def Mz.Bk.item (b : Mz.Bk) : It := .mk b.k [] b.p b.thn b.els
/-- a block's row that is being read -/
def Mz.Bk.cur (b : Mz.Bk) : List It := if b.e then b.els else b.thn
/-- a block with another row -/
def Mz.Bk.set (b : Mz.Bk) (l : List It) : Mz.Bk := if b.e then ⟨b.k, b.p, b.thn, l, b.e⟩ else ⟨b.k, b.p, l, b.els, b.e⟩
/-- the items outside blocks, and the open blocks, the outermost first -/
structure Mz.St where
  items : List It
  op : List Mz.Bk
/-- the row that is being read -/
def Mz.St.cur (s : Mz.St) : List It :=
  match s.op.getLast? with
  | none => s.items
  | some b => b.cur
def Mz.St.set (s : Mz.St) (l : List It) : Mz.St :=
  match s.op.getLast? with
  | none => ⟨l, s.op⟩
  | some b => ⟨s.items, s.op.dropLast ++ [b.set l]⟩
def Mz.St.put (s : Mz.St) (x : It) : Mz.St := s.set (s.cur ++ [x])
/-- whether a range's Then is open -/
def Mz.loop (l : List Mz.Bk) : Bool := l.any fun b => decide (b.k = 5) && !b.e
def Mz.St.begin (s : Mz.St) (k : Int) (p : List Cm) : Mz.St := ⟨s.items, s.op ++ [⟨k, p, [], [], false⟩]⟩
/-- its innermost block's Else -/
def Mz.St.turn (s : Mz.St) : Except Int Mz.St :=
  match s.op.getLast? with
  | none => .error 1601
  | some b => if b.e then .error 1601 else .ok ⟨s.items, s.op.dropLast ++ [⟨b.k, b.p, b.thn, b.els, true⟩]⟩
def Mz.St.end (s : Mz.St) : Except Int Mz.St :=
  match s.op.getLast? with
  | none => .error 1600
  | some b => .ok (Mz.St.put ⟨s.items, s.op.dropLast⟩ b.item)
/-- an item with what words ask for -/
def Mz.St.asked (s : Mz.St) (k : Int) (t : List UInt8) (ws : List Wo) : Except Int Mz.St :=
  let r := Pi.parse (ws.map Wo.wi)
  if r.2 = 0 then .ok (s.put (.mk k t r.1 [] [])) else .error r.2
def Mz.St.block (s : Mz.St) (k : Int) (ws : List Wo) : Except Int Mz.St :=
  let r := Pi.parse (ws.map Wo.wi)
  if r.2 ≠ 0 then .error r.2 else if s.op.length = 16 then .error 1603 else .ok (s.begin k r.1)
def Mz.St.leave (s : Mz.St) (k : Int) : Except Int Mz.St := if Mz.loop s.op then .ok (s.put (.mk k [] [] [] [])) else .error 1602
def Mz.St.call (s : Mz.St) (ws : List Wo) : Except Int Mz.St :=
  match ws with
  | [] => .error 1604
  | x :: rest => if x.kind ≠ 4 then .error 1604 else if rest = [] then .ok (s.put (.mk 6 x.text [] [] [])) else s.asked 6 x.text rest
def Mz.St.mark (s : Mz.St) (w : List UInt8) : Except Int Mz.St :=
  if w = Tm.sElse then s.turn else if w = Tm.sEnd then s.end else if w = Tm.sBreak then s.leave 7 else s.leave 8
/-- an action's words -/
def Mz.St.action (s : Mz.St) (ws : List Wo) : Except Int Mz.St :=
  let w := Tm.first ws
  if w = Tm.sIf then s.block 3 (ws.drop 1)
  else if w = Tm.sWith then s.block 4 (ws.drop 1)
  else if w = Tm.sRange then s.block 5 (ws.drop 1)
  else if w = Tm.sElse ∨ w = Tm.sEnd ∨ w = Tm.sBreak ∨ w = Tm.sCont then if 1 < ws.length then .error 1604 else s.mark w
  else if w = Tm.sTmpl then s.call (ws.drop 1)
  else
    match ws with
    | x :: y :: rest => if x.kind = 2 ∧ x.path = [] ∧ y.kind = 6 then s.asked 2 x.text rest else s.asked 1 [] ws
    | _ => s.asked 1 [] ws
/-- a piece -/
def Mz.St.piece (s : Mz.St) (p : Pc) : Except Int Mz.St :=
  if p.act = false then .ok (s.put (.mk 0 p.text [] [] []))
  else
    let r := Wx.words ⟨p.text.toArray⟩
    if r.2 ≠ 0 then .error r.2 else if r.1 = [] then .error 1604 else s.action r.1
def Mz.go : List Pc → Mz.St → Except Int Mz.St
  | [], s => .ok s
  | p :: ps, s =>
    match s.piece p with
    | .error e => .error e
    | .ok s2 => Mz.go ps s2
/-- what is answered -/
def Mz.fin : Except Int Mz.St → List It × Int
  | .error e => ([], e)
  | .ok s => if s.op = [] then (s.items, 0) else ([], 1600)
theorem Mz.op_case (s : Mz.St) : s.op = [] ∨ ∃ l b, s.op = l ++ [b] := by
  by_cases h : s.op = []
  · exact .inl h
  · exact .inr ⟨s.op.dropLast, s.op.getLast h, (List.dropLast_concat_getLast h).symm⟩
theorem Mz.Bk.cur_set (b : Mz.Bk) (l : List It) : (b.set l).cur = l := by
  unfold Mz.Bk.set Mz.Bk.cur
  split <;> simp_all
theorem Mz.Bk.set_set (b : Mz.Bk) (l m : List It) : (b.set l).set m = b.set m := by
  unfold Mz.Bk.set
  split <;> simp_all
theorem Mz.Bk.set_k (b : Mz.Bk) (l : List It) : (b.set l).k = b.k ∧ (b.set l).e = b.e := by
  unfold Mz.Bk.set
  split <;> exact ⟨rfl, rfl⟩
theorem Mz.St.cur_set (s : Mz.St) (l : List It) : (s.set l).cur = l := by
  obtain ⟨is, op⟩ := s
  rcases Mz.op_case ⟨is, op⟩ with h | ⟨m, b, h⟩
  · simp only at h
    subst h
    rfl
  · simp only at h
    subst h
    simp [Mz.St.set, Mz.St.cur, Mz.Bk.cur_set]
theorem Mz.St.set_set (s : Mz.St) (l m : List It) : (s.set l).set m = s.set m := by
  obtain ⟨is, op⟩ := s
  rcases Mz.op_case ⟨is, op⟩ with h | ⟨q, b, h⟩
  · simp only at h
    subst h
    rfl
  · simp only at h
    subst h
    simp [Mz.St.set, Mz.Bk.set_set]
theorem Mz.St.set_cur (s : Mz.St) : s.set s.cur = s := by
  obtain ⟨is, op⟩ := s
  rcases Mz.op_case ⟨is, op⟩ with h | ⟨q, b, h⟩
  · simp only at h
    subst h
    rfl
  · simp only at h
    subst h
    have : b.set b.cur = b := by
      unfold Mz.Bk.set Mz.Bk.cur
      split <;> rfl
    simp [Mz.St.set, Mz.St.cur, this]
theorem Mz.St.set_deep (s : Mz.St) (l : List It) : (s.set l).op.length = s.op.length ∧ Mz.loop (s.set l).op = Mz.loop s.op := by
  obtain ⟨is, op⟩ := s
  rcases Mz.op_case ⟨is, op⟩ with h | ⟨q, b, h⟩
  · simp only at h
    subst h
    exact ⟨rfl, rfl⟩
  · simp only at h
    subst h
    obtain ⟨h1, h2⟩ := b.set_k l
    simp [Mz.St.set, Mz.loop, h1, h2]
/-- what a begun block's rows become -/
theorem Mz.St.begin_cur (s : Mz.St) (k : Int) (p : List Cm) : (s.begin k p).cur = [] ∧ (s.begin k p).op.length = s.op.length + 1 ∧ Mz.loop (s.begin k p).op = (Mz.loop s.op || decide (k = 5)) := by
  unfold Mz.St.begin Mz.St.cur Mz.loop
  simp [Mz.Bk.cur]
theorem Mz.St.begin_end (s : Mz.St) (k : Int) (p : List Cm) (thn : List It) : ((s.begin k p).set thn).end = .ok (s.put (.mk k [] p thn [])) := by
  unfold Mz.St.begin Mz.St.set Mz.St.end
  simp [Mz.Bk.set, Mz.Bk.item]
theorem Mz.St.begin_turn (s : Mz.St) (k : Int) (p : List Cm) (thn : List It) : ∃ t, ((s.begin k p).set thn).turn = .ok t ∧ t.cur = [] ∧ t.op.length = s.op.length + 1 ∧ Mz.loop t.op = Mz.loop s.op ∧ ∀ els, (t.set els).turn = .error 1601 ∧ (t.set els).end = .ok (s.put (.mk k [] p thn els)) := by
  refine ⟨⟨s.items, s.op ++ [⟨k, p, thn, [], true⟩]⟩, ?_, ?_, ?_, ?_, fun els => ⟨?_, ?_⟩⟩
  · unfold Mz.St.begin Mz.St.set Mz.St.turn
    simp [Mz.Bk.set]
  · simp [Mz.St.cur, Mz.Bk.cur]
  · simp
  · simp [Mz.loop]
  · simp [Mz.St.set, Mz.St.turn, Mz.Bk.set]
  · simp [Mz.St.set, Mz.St.end, Mz.Bk.set, Mz.Bk.item]
end Go.Proofs.YtjppobeomocgbaaGreatDoor

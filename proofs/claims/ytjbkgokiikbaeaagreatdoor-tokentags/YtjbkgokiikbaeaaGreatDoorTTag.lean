/-
  PLAIN: a tag that is written from its parts is told as these.
-/
import Derived.Test.YtjbkgokiikbaeaaGreatDoorTMany
namespace Go.Proofs.YtjbkgokiikbaeaaGreatDoor
theorem Tg.digit (u : Nat) : ∀ x ∈ Lib.decDigits u, 48 ≤ x.toNat ∧ x.toNat ≤ 57 := by
  induction u using Nat.strongRecOn with
  | ind u ih =>
    intro x hx
    rw [Lib.decDigits] at hx
    split at hx
    · have hx := List.mem_singleton.1 hx
      subst hx
      rw [UInt8.toNat_ofNat']
      omega
    · rcases List.mem_append.1 hx with h | h
      · exact ih (u / 10) (by omega) x h
      · have h := List.mem_singleton.1 h
        subst h
        rw [UInt8.toNat_ofNat']
        omega
theorem Tg.some (u : Nat) : Lib.decDigits u ≠ [] := by
  rw [Lib.decDigits]
  split <;> simp
theorem Tg.len : ∀ (n u : Nat), u < 10 ^ (n + 1) → (Lib.decDigits u).length ≤ n + 1
  | 0, u, h => by
    rw [Lib.decDigits, dif_pos (by omega)]
    simp
  | n + 1, u, h => by
    rw [Lib.decDigits]
    split
    · simp
    · have := Tg.len n (u / 10) (by rw [Nat.pow_succ] at h; omega)
      simp
      omega
theorem Tg.ofNat {a b : Nat} (ha : a < 256) (hb : b < 256) (h : UInt8.ofNat a = UInt8.ofNat b) : a = b := by
  have := congrArg UInt8.toNat h
  rw [UInt8.toNat_ofNat', UInt8.toNat_ofNat'] at this
  omega
theorem Tg.inj (u : Nat) : ∀ v, Lib.decDigits u = Lib.decDigits v → u = v := by
  induction u using Nat.strongRecOn with
  | ind u ih =>
    intro v h
    by_cases hu : u < 10
    · by_cases hv : v < 10
      · rw [Lib.decDigits_one hu, Lib.decDigits_one hv] at h
        have := Tg.ofNat (by omega) (by omega) (List.cons.inj h).1
        omega
      · rw [Lib.decDigits_one hu] at h
        rw [Lib.decDigits, dif_neg hv] at h
        have h1 := congrArg List.length h
        have h2 := List.length_pos_iff.2 (Tg.some (v / 10))
        simp only [List.length_append, List.length_cons, List.length_nil] at h1
        omega
    · by_cases hv : v < 10
      · rw [Lib.decDigits_one hv] at h
        rw [Lib.decDigits, dif_neg hu] at h
        have h1 := congrArg List.length h
        have h2 := List.length_pos_iff.2 (Tg.some (u / 10))
        simp only [List.length_append, List.length_cons, List.length_nil] at h1
        omega
      · rw [Lib.decDigits, dif_neg hu] at h
        have hv' : Lib.decDigits v = Lib.decDigits (v / 10) ++ [UInt8.ofNat (48 + v % 10)] := by rw [Lib.decDigits, dif_neg hv]
        rw [hv'] at h
        obtain ⟨h1, h2⟩ := List.append_inj' h rfl
        have e1 := ih (u / 10) (by omega) _ h1
        have e2 := Tg.ofNat (by omega) (by omega) (List.cons.inj h2).1
        omega
theorem Tg.dig (c : UInt8) (h : 48 ≤ c.toNat ∧ c.toNat ≤ 57) : Mn.ok c ∧ Pl.lowB c = c ∧ c ≠ 13 := by
  have n9 : c ≠ 9 := fun e => by subst e; exact absurd h.1 (by decide)
  have n10 : c ≠ 10 := fun e => by subst e; exact absurd h.1 (by decide)
  have n12 : c ≠ 12 := fun e => by subst e; exact absurd h.1 (by decide)
  have n13 : c ≠ 13 := fun e => by subst e; exact absurd h.1 (by decide)
  have n32 : c ≠ 32 := fun e => by subst e; exact absurd h.1 (by decide)
  have n47 : c ≠ 47 := fun e => by subst e; exact absurd h.1 (by decide)
  have n62 : c ≠ 62 := fun e => by subst e; exact absurd h.2 (by decide)
  have n61 : c ≠ 61 := fun e => by subst e; exact absurd h.2 (by decide)
  refine ⟨⟨by simp [Ts.blank, n9, n10, n12, n13, n32], n47, n62, n61⟩, ?_, n13⟩
  unfold Pl.lowB
  split
  · next e =>
    exfalso
    omega
  · rfl
/-- an attribute's parts: its number, its quote, its value -/
structure Tg.Part where
  num : Nat
  q : UInt8
  v : List UInt8
structure Tg.Part.Ok (p : Tg.Part) : Prop where
  small : p.num < 100000
  quote : p.q = 34 ∨ p.q = 39
  val : ∀ x ∈ p.v, x ≠ 34 ∧ x ≠ 39 ∧ x ≠ 38 ∧ x ≠ 13
def Tg.name (n : Nat) : ByteArray := ⟨(97 :: Lib.decDigits n).toArray⟩
def Tg.seg (p : Tg.Part) : List UInt8 := (32 :: 97 :: (Lib.decDigits p.num ++ [61])) ++ (p.q :: (p.v ++ [p.q]))
def Tg.body (ps : List Tg.Part) : List UInt8 := ps.flatMap Tg.seg
def Tg.al (ps : List Tg.Part) : List (ByteArray × ByteArray) := ps.map fun p => (Tg.name p.num, ⟨p.v.toArray⟩)
def Tg.div : ByteArray := ⟨#[100, 105, 118]⟩
theorem Tg.body_snoc (ps : List Tg.Part) (p : Tg.Part) : Tg.body (ps ++ [p]) = Tg.body ps ++ Tg.seg p := by simp [Tg.body]
theorem Tg.al_snoc (ps : List Tg.Part) (p : Tg.Part) : Tg.al (ps ++ [p]) = Tg.al ps ++ [(Tg.name p.num, ⟨p.v.toArray⟩)] := by simp [Tg.al]
theorem Tg.grow (n : Nat) (h : n < 100000) : Nm.grow (Ts.low 97) (Lib.decDigits n) = Tg.name n := by
  have h1 := Nm.grow_eq (Lib.decDigits n) [97] (by decide)
  have h2 : (Lib.decDigits n).map Pl.lowB = Lib.decDigits n := by
    conv => rhs; rw [← List.map_id (Lib.decDigits n)]
    exact List.map_congr_left fun c hc => (Tg.dig c (Tg.digit n c hc)).2.1
  have h3 := Tg.len 4 n h
  rw [h2, List.take_of_length_le (by simp; omega)] at h1
  exact h1
theorem Tg.fresh (ps : List Tg.Part) (p : Tg.Part) (hl : ps.length < 32) (hd : ∀ x ∈ ps, x.num ≠ p.num) : Mn.fresh (Tg.al ps) (Tg.name p.num) := by
  refine ⟨by simp [Tg.al, hl], ?_⟩
  rw [List.any_eq_false]
  intro x hx
  simp only [Tg.al, List.mem_map] at hx
  obtain ⟨y, hy, rfl⟩ := hx
  simp only [decide_eq_true_eq]
  intro e
  have e1 := congrArg (fun b : ByteArray => b.data.toList) e
  have e2 : (97 : UInt8) :: Lib.decDigits y.num = 97 :: Lib.decDigits p.num := e1
  exact hd y hy (Tg.inj _ _ (List.cons.inj e2).2)
theorem Tg.run (P : ByteArray) : ∀ (ps : List Tg.Part) (dn : List Tg.Part) (post : List UInt8) (r : Rd), dn.length + ps.length ≤ 32 → (∀ p ∈ ps, Tg.Part.Ok p) → List.Pairwise (fun a b : Tg.Part => a.num ≠ b.num) (dn ++ ps) →
    P = ⟨([60, 68, 105, 86] ++ Tg.body dn ++ Tg.body ps ++ post).toArray⟩ → Mn.At P Tg.div (Tg.al dn) (4 + (Tg.body dn).length) r →
    Mn.At P Tg.div (Tg.al (dn ++ ps)) (4 + (Tg.body (dn ++ ps)).length) (Rd.run P r (4 + (Tg.body dn).length) (Tg.body ps))
  | [], dn, post, r, _, _, _, _, h => by
    rw [List.append_nil]
    exact h
  | p :: ps, dn, post, r, hl, hok, hpw, hP, h => by
    have hp := hok p (by simp)
    have hpw' := hpw
    rw [show dn ++ p :: ps = (dn ++ [p]) ++ ps by simp] at hpw'
    have hd : ∀ x ∈ dn, x.num ≠ p.num := fun x hx => (List.pairwise_append.1 hpw).2.2 x hx p (by simp)
    simp only [List.length_cons] at hl
    obtain ⟨j, hj⟩ : ∃ j, 4 + (Tg.body dn).length = j := ⟨_, rfl⟩
    have hseg : Tg.body (p :: ps) = Tg.seg p ++ Tg.body ps := by simp [Tg.body]
    have hV : Rd.dec (P.extract (j + ((Lib.decDigits p.num).length + 3) + 1) (j + ((Lib.decDigits p.num).length + 3) + 1 + p.v.length)) = ⟨p.v.toArray⟩ := by
      have e := Sg.part ([60, 68, 105, 86] ++ Tg.body dn ++ (32 :: 97 :: (Lib.decDigits p.num ++ [61])) ++ [p.q]) p.v ([p.q] ++ (Tg.body ps ++ post)) (j + ((Lib.decDigits p.num).length + 3) + 1) (j + ((Lib.decDigits p.num).length + 3) + 1 + p.v.length) (by rw [← hj]; simp; omega) (by rw [← hj]; simp; omega)
      have eP : P = ⟨([60, 68, 105, 86] ++ Tg.body dn ++ (32 :: 97 :: (Lib.decDigits p.num ++ [61])) ++ [p.q] ++ p.v ++ ([p.q] ++ (Tg.body ps ++ post))).toArray⟩ := by
        rw [hP, hseg, Tg.seg]
        simp
      rw [eP, e]
      exact Sg.decB _ (fun x hx => (hp.val x hx).2.2.1)
    rw [hj] at h
    have h1 := Mn.quote h (by kernel_rfl) 97 (Lib.decDigits p.num) (by decide) (fun x hx => (Tg.dig x (Tg.digit _ x hx)).1) p.q hp.quote p.v (fun x hx => by
      rcases hp.quote with e | e
      · rw [e]; exact (hp.val x hx).1
      · rw [e]; exact (hp.val x hx).2.1) (Tg.name p.num) _ (Tg.grow p.num hp.small) true ⟨fun _ => Tg.fresh dn p (by omega) hd, fun _ => rfl⟩ hV
    have e1 : Mn.al2 (Tg.al dn) (Tg.name p.num) ⟨p.v.toArray⟩ true = Tg.al (dn ++ [p]) := by
      rw [Tg.al_snoc]
      rfl
    have e2 : j + ((Lib.decDigits p.num).length + 3) + 1 + p.v.length + 1 = 4 + (Tg.body (dn ++ [p])).length := by
      rw [← hj, Tg.body_snoc, Tg.seg]
      simp
      omega
    rw [e1, e2] at h1
    have ih := Tg.run P ps (dn ++ [p]) post _ (by simp; omega) (fun x hx => hok x (by simp [hx])) hpw' (by rw [hP, hseg, Tg.body_snoc]; simp) h1
    rw [show dn ++ p :: ps = (dn ++ [p]) ++ ps by simp, hseg, hj, Rd.run_append]
    have e3 : j + (Tg.seg p).length = 4 + (Tg.body (dn ++ [p])).length := by
      rw [← hj, Tg.body_snoc]
      simp
      omega
    rw [e3]
    exact ih
theorem Tg.page (P : ByteArray) (ps : List Tg.Part) (post : List UInt8) (hl : ps.length ≤ 32) (hok : ∀ p ∈ ps, Tg.Part.Ok p) (hpw : List.Pairwise (fun a b : Tg.Part => a.num ≠ b.num) ps) (hP : P = ⟨([60, 68, 105, 86] ++ Tg.body ps ++ post).toArray⟩) :
    Mn.At P Tg.div (Tg.al ps) (4 + (Tg.body ps).length) (Rd.run P Rd.start 0 ([60, 68, 105, 86] ++ Tg.body ps)) := by
  have e : Rd.run P Rd.start 0 [60, 68, 105, 86] = ⟨Mn.s 3 Tg.div Ts.e, [], 0, 0, 0, [], false⟩ := by kernel_rfl
  have h := Tg.run P ps [] post _ (by simpa using hl) hok (by simpa using hpw) (by rw [hP]; simp [Tg.body]) (Mn.at3 P Tg.div (by kernel_rfl) 0 4 [] false)
  rw [Rd.run_append, e]
  exact h
theorem Tg.no13 (ps : List Tg.Part) (hok : ∀ p ∈ ps, Tg.Part.Ok p) : ∀ x ∈ Tg.body ps, x ≠ 13 := by
  intro x hx
  simp only [Tg.body, List.mem_flatMap] at hx
  obtain ⟨p, hp, hx⟩ := hx
  have h := hok p hp
  have hq : p.q ≠ 13 := by
    rcases h.quote with e | e <;> (rw [e]; decide)
  simp only [Tg.seg, List.mem_append, List.mem_cons, List.not_mem_nil, or_false] at hx
  rcases hx with (e | e | e | e) | e | e | e
  · rw [e]; decide
  · rw [e]; decide
  · exact (Tg.dig x (Tg.digit _ x e)).2.2
  · rw [e]; decide
  · rw [e]; exact hq
  · exact (h.val x e).2.2.2
  · rw [e]; exact hq
theorem Tg.over (P : ByteArray) (toks : List Tk) (t v : Nat) (tk : Bool) (h : t ≠ P.size) : Rd.done P ⟨Ts.only 0, toks, t, 0, v, [], tk⟩ = toks ++ [⟨0, Ts.e, Rd.dec (P.extract t P.size), [], false⟩] := by
  show (Rd.tellText P ⟨Ts.only 0, toks, t, 0, v, [], tk⟩ P.size Ts.e).toks = _
  unfold Rd.tellText
  rw [if_neg h]
  rfl
theorem Tg.x (P : ByteArray) (toks : List Tk) (t v i : Nat) (tk : Bool) : Rd.read P ⟨Ts.only 0, toks, t, 0, v, [], tk⟩ i 120 = ⟨Ts.only 0, toks, t, 0, v, [], tk⟩ := by kernel_rfl
/-- the tag's end -/
def Tg.fin (vd : Bool) : List UInt8 := if vd = true then [32, 47, 62] else [62]
theorem Tg.shut (P : ByteArray) (al : List (ByteArray × ByteArray)) (j : Nat) (r : Rd) (h : Mn.At P Tg.div al j r) (vd : Bool) : ∃ v tk, Rd.run P r j (Tg.fin vd) = ⟨Ts.only 0, [⟨1, Tg.div, Ts.e, al, vd⟩], j + (Tg.fin vd).length, 0, v, [], tk⟩ := by
  cases vd with
  | false => exact h.shut
  | true =>
    obtain ⟨v, tk, hb⟩ := h.blank
    refine ⟨v, tk, ?_⟩
    show Rd.run P (Rd.read P r j 32) (j + 1) [47, 62] = _
    rw [hb]
    have e : ∀ i : Nat, Rd.run P ⟨Mn.s 4 Tg.div Ts.e, [], 0, 0, v, al, tk⟩ i [47, 62] = ⟨Ts.only 0, [⟨1, Tg.div, Ts.e, al, true⟩], i + 1 + 1, 0, v, [], tk⟩ := fun i => by kernel_rfl
    rw [e]
    rfl
theorem Tg.tokens (ps : List Tg.Part) (vd : Bool) (hl : ps.length ≤ 32) (hok : ∀ p ∈ ps, Tg.Part.Ok p) (hpw : List.Pairwise (fun a b : Tg.Part => a.num ≠ b.num) ps) :
    Rd.tokens ⟨([60, 68, 105, 86] ++ Tg.body ps ++ Tg.fin vd ++ [120]).toArray⟩ = [⟨1, Tg.div, Ts.e, Tg.al ps, vd⟩, ⟨0, Ts.e, ⟨#[120]⟩, [], false⟩] := by
  obtain ⟨L, hL⟩ : ∃ L, [60, 68, 105, 86] ++ Tg.body ps ++ Tg.fin vd ++ [120] = L := ⟨_, rfl⟩
  have hf : ∀ x ∈ Tg.fin vd, x ≠ 13 := by cases vd <;> decide
  have hll : Rd.lines L = L := Sg.lines _ (fun c hc => by
    rw [← hL] at hc
    simp only [List.mem_append, List.mem_cons, List.not_mem_nil, or_false] at hc
    rcases hc with (((e | e | e | e) | e) | e) | e
    · rw [e]; decide
    · rw [e]; decide
    · rw [e]; decide
    · rw [e]; decide
    · exact Tg.no13 ps hok c e
    · exact hf c e
    · rw [e]; decide)
  rw [hL]
  show Rd.done ⟨(Rd.lines L).toArray⟩ (Rd.run ⟨(Rd.lines L).toArray⟩ Rd.start 0 (Rd.lines L)) = _
  rw [hll]
  obtain ⟨P, hP⟩ : ∃ P : ByteArray, ⟨L.toArray⟩ = P := ⟨_, rfl⟩
  have hsz : P.size = 4 + (Tg.body ps).length + (Tg.fin vd).length + 1 := by
    rw [← hP, ← hL]
    show (List.toArray _).size = _
    simp
    omega
  rw [hP]
  have hat := Tg.page P ps (Tg.fin vd ++ [120]) hl hok hpw (by rw [← hP, ← hL]; simp)
  obtain ⟨v, tk, hs⟩ := Tg.shut P _ _ _ hat vd
  have e1 : P.extract (4 + (Tg.body ps).length + (Tg.fin vd).length) P.size = ⟨#[120]⟩ := by
    have := Sg.part ([60, 68, 105, 86] ++ Tg.body ps ++ Tg.fin vd) [120] [] (4 + (Tg.body ps).length + (Tg.fin vd).length) P.size (by simp; omega) (by rw [hsz]; simp; omega)
    rw [List.append_nil, hL, hP] at this
    exact this
  have e0 : 0 + ([60, 68, 105, 86] ++ Tg.body ps : List UInt8).length = 4 + (Tg.body ps).length := by simp; omega
  rw [← hL, Rd.run_append, Rd.run_append, e0, hs, Mn.one, Tg.x, Tg.over _ _ _ _ _ (by omega), e1]
  have d : Rd.dec ⟨#[120]⟩ = ⟨#[120]⟩ := Sg.decB [120] (by decide)
  rw [d]
  rfl
theorem Rd.readAttr_st (P : ByteArray) (r : Rd) (was now : Ts) (i : Nat) : (Rd.readAttr P r was now i).st = r.st := by
  unfold Rd.readAttr Rd.addAttr
  repeat' split
  all_goals rfl
theorem Rd.read_st (P : ByteArray) (r : Rd) (i : Nat) (c : UInt8) : (Rd.read P r i c).st = r.st.step c := by
  rw [Rd.read_go]
  generalize r.st.step c = N
  generalize (if N.pl = 1 ∨ N.pl = 20 then i else r.opn) = o
  unfold Rd.go
  repeat' split
  · exact (Rd.tellText_facts P ⟨N, r.toks, r.text, _, r.value, r.attrs, r.taken⟩ _ _).1
  · exact (Rd.tellText_facts P ⟨N, r.toks, r.text, _, r.value, r.attrs, r.taken⟩ _ _).1
  · unfold Rd.tags
    dsimp only
    split
    · rw [(Rd.tellTag_facts _ _ _).1, Rd.readAttr_st]
    · rw [Rd.readAttr_st]
  · rfl
  · rfl
theorem Rd.run_st (P : ByteArray) : ∀ (l : List UInt8) (r : Rd) (i : Nat), (Rd.run P r i l).st = l.foldl Ts.step r.st
  | [], _, _ => rfl
  | c :: l, r, i => by
    show (Rd.run P (Rd.read P r i c) (i + 1) l).st = _
    rw [Rd.run_st P l, Rd.read_st]
    rfl
theorem Tg.state (ps : List Tg.Part) (vd : Bool) (hl : ps.length ≤ 32) (hok : ∀ p ∈ ps, Tg.Part.Ok p) (hpw : List.Pairwise (fun a b : Tg.Part => a.num ≠ b.num) ps) :
    ([60, 68, 105, 86] ++ Tg.body ps ++ Tg.fin vd).foldl Ts.step Ts.start = Ts.start := by
  obtain ⟨P, hP⟩ : ∃ P : ByteArray, P = ⟨([60, 68, 105, 86] ++ Tg.body ps ++ Tg.fin vd).toArray⟩ := ⟨_, rfl⟩
  have hat := Tg.page P ps (Tg.fin vd) hl hok hpw hP
  obtain ⟨v, tk, hs⟩ := Tg.shut P _ _ _ hat vd
  have h := Rd.run_st P ([60, 68, 105, 86] ++ Tg.body ps ++ Tg.fin vd) Rd.start 0
  have e0 : 0 + ([60, 68, 105, 86] ++ Tg.body ps : List UInt8).length = 4 + (Tg.body ps).length := by simp; omega
  rw [Rd.run_append, e0, hs] at h
  exact h.symm
end Go.Proofs.YtjbkgokiikbaeaaGreatDoor

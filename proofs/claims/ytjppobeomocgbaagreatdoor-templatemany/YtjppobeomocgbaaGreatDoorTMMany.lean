/-
  PLAIN: as many texts and holes side by side.
-/
import Derived.Test.YtjppobeomocgbaaGreatDoorTMPlaintoISame
import Derived.Test.YtjppobeomocgbaaGreatDoorTMSametoMRow1
import Derived.KernelRfl
namespace Go.Proofs.YtjppobeomocgbaaGreatDoor
theorem Fl.at {α β : Type} {k : Nat} {f : α → List β} (hk : ∀ x, (f x).length = k) : ∀ (l : List α) (i r : Nat) (x : α), l[i]? = some x → r < k → (l.flatMap f)[i * k + r]? = (f x)[r]? := by
  intro l
  induction l with
  | nil => intro i r x h; simp at h
  | cons a l ih =>
    intro i r x h hr
    rw [List.flatMap_cons]
    cases i with
    | zero =>
      simp only [List.getElem?_cons_zero, Option.some.injEq] at h
      subst h
      rw [List.getElem?_append_left (by rw [hk]; omega), Nat.zero_mul, Nat.zero_add]
    | succ i =>
      rw [List.getElem?_cons_succ] at h
      rw [List.getElem?_append_right (by rw [hk, Nat.succ_mul]; omega), hk, show (i + 1) * k + r - k = i * k + r by rw [Nat.succ_mul]; omega]
      exact ih i r x h hr
theorem Fl.len {α β : Type} {k : Nat} {f : α → List β} (hk : ∀ x, (f x).length = k) (l : List α) : (l.flatMap f).length = l.length * k := by
  induction l with
  | nil => simp
  | cons a l ih => rw [List.flatMap_cons, List.length_append, hk, ih, List.length_cons, Nat.succ_mul]; omega
def My.u : Un := ⟨[116], [46], false⟩
def My.two : List It := [.mk 0 [116] [] [] [], Mh.hole]
def My.items (k : Nat) : List It := (List.replicate k ()).flatMap fun _ => My.two
def My.src (k : Nat) : List UInt8 := (List.replicate k My.u).flatMap Un.src
theorem My.dot : Tm.flat [46] = some Mh.hole := by kernel_rfl
theorem My.len (k : Nat) : (My.items k).length = 2 * k := by
  unfold My.items
  rw [Fl.len (k := 2) (fun _ => rfl), List.length_replicate]
  omega
theorem My.at0 {k i : Nat} (h : i < k) : (My.items k)[2 * i]? = some (.mk 0 [116] [] [] []) := by
  unfold My.items
  rw [show 2 * i = i * 2 + 0 by omega, Fl.at (k := 2) (fun _ => rfl) _ i 0 () (by rw [List.getElem?_replicate, if_pos h]) (by decide)]
  rfl
theorem My.at1 {k i : Nat} (h : i < k) : (My.items k)[2 * i + 1]? = some Mh.hole := by
  unfold My.items
  rw [show 2 * i + 1 = i * 2 + 1 by omega, Fl.at (k := 2) (fun _ => rfl) _ i 1 () (by rw [List.getElem?_replicate, if_pos h]) (by decide)]
  rfl
theorem My.src_succ (k : Nat) : My.src (k + 1) = My.src k ++ [116, 123, 123, 46, 125, 125] := by
  unfold My.src
  rw [List.replicate_succ', List.flatMap_append]
  rfl
theorem My.src_len (k : Nat) : (My.src k).length = 6 * k := by
  induction k with
  | zero => rfl
  | succ k ih => rw [My.src_succ, List.length_append, ih]; show 6 * k + 6 = _; omega
theorem My.good : My.u.Good := Un.act (by decide) (Mq.act_of (by decide))
theorem My.parse (s : ByteArray) (k : Nat) (hs : s.data.toList = My.src k) (hk : k ≤ 600) : Tm.parse s = if 1024 < 2 * k then ([], 1302) else (My.items k, 0) := by
  have hz : s.size ≤ 65536 := by
    have := My.src_len k
    rw [← hs, Wk.len_data] at this
    omega
  have hp : ((List.replicate k My.u).flatMap Un.pcs ++ Un.one []) = (List.replicate k ()).flatMap fun _ => [(false, [116]), (true, [46])] := by
    rw [show Un.one [] = [] from rfl, List.append_nil]
    induction k with
    | zero => rfl
    | succ k ih =>
      rw [List.replicate_succ, List.replicate_succ, List.flatMap_cons, List.flatMap_cons]
      congr 1
      clear ih hs hk hz
      induction k with
      | zero => rfl
      | succ k ih => rw [List.replicate_succ, List.replicate_succ, List.flatMap_cons, List.flatMap_cons, ih]; rfl
  rw [← My.len k]
  refine Tm.parse_flat (us := List.replicate k My.u) (tl := []) (by rw [List.append_nil]; exact hs) (fun u hu => by rw [(List.mem_replicate.1 hu).2]; exact My.good) (fun c hc => by cases hc) hz ?_ ?_
  · rw [hp, My.len, Fl.len (k := 2) (fun _ => rfl), List.length_replicate]
    omega
  · intro j q x hq hx
    rw [hp] at hq
    have hj := (List.getElem?_eq_some_iff.1 hx).1
    rw [My.len] at hj
    have hi : j / 2 < k := by omega
    rcases Nat.mod_two_eq_zero_or_one j with h | h
    · rw [show j = 2 * (j / 2) by omega, My.at0 hi] at hx
      rw [show j = j / 2 * 2 + 0 by omega, Fl.at (k := 2) (fun _ => rfl) _ (j / 2) 0 () (by rw [List.getElem?_replicate, if_pos hi]) (by decide)] at hq
      have hx := Option.some.inj hx
      have hq := Option.some.inj hq
      subst hx hq
      exact .inl ⟨rfl, rfl⟩
    · rw [show j = 2 * (j / 2) + 1 by omega, My.at1 hi] at hx
      rw [show j = j / 2 * 2 + 1 by omega, Fl.at (k := 2) (fun _ => rfl) _ (j / 2) 1 () (by rw [List.getElem?_replicate, if_pos hi]) (by decide)] at hq
      have hx := Option.some.inj hx
      have hq := Option.some.inj hq
      subst hx hq
      exact .inr ⟨rfl, My.dot⟩
end Go.Proofs.YtjppobeomocgbaaGreatDoor

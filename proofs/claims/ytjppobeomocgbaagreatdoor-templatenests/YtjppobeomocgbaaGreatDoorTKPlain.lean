/-
  PLAIN: what the landed Parse reads, and that it is the reference's reading.
-/
import Derived.Test.YtjppobeomocgbaaGreatDoorTGSpoiltoKArg
namespace Go.Proofs.YtjppobeomocgbaaGreatDoor
/-- arguments, as far as words are some by their form -/
def Kp.args : List Wi → List Ar
  | [] => []
  | w :: ws => if (Ka.arg w).2 = true then (Ka.arg w).1 :: Kp.args ws else []
def Kp.isf : List Wi → Bool
  | [] => false
  | w :: _ => Ka.only w 0 && Pi.isFn w.text
def Kp.fn : List Wi → List UInt8
  | [] => []
  | w :: ws => if Kp.isf (w :: ws) = true then w.text else []
def Kp.behind (l : List Wi) : List Wi := if Kp.isf l = true then l.tail else l
/-- a command, and what is left behind it -/
def Kp.cmd (l : List Wi) : Cm := ⟨Kp.fn l, Kp.args (Kp.behind l)⟩
def Kp.left (l : List Wi) : List Wi := (Kp.behind l).drop (Kp.args (Kp.behind l)).length
def Kp.isBar : List Wi → Bool
  | [] => false
  | w :: _ => Pi.bar w
/-- commands behind bars -/
def Kp.more : Nat → List Wi → List Cm × List Wi
  | 0, l => ([], l)
  | n + 1, l => if Kp.isBar l = true then (Kp.cmd l.tail :: (Kp.more n (Kp.left l.tail)).1, (Kp.more n (Kp.left l.tail)).2) else ([], l)
theorem Kp.args_le : ∀ l, (Kp.args l).length ≤ l.length
  | [] => Nat.le_refl _
  | w :: ws => by
    unfold Kp.args
    split
    · have := Kp.args_le ws
      simp only [List.length_cons]
      omega
    · exact Nat.zero_le _
theorem Kp.bar_kind {w : Wi} (h : Pi.bar w = true) : w.kind = 5 := by
  unfold Pi.bar at h
  simp only [Bool.and_eq_true, decide_eq_true_eq] at h
  exact h.1
theorem Kp.bar_arg {w : Wi} (h : Pi.bar w = true) : (Ka.arg w).2 = false := by
  have := Kp.bar_kind h
  unfold Ka.arg
  rw [this]
  rfl
theorem Kp.bar_isf {w : Wi} {ws : List Wi} (h : Pi.bar w = true) : Kp.isf (w :: ws) = false := by
  have := Kp.bar_kind h
  show (Ka.only w 0 && _) = false
  unfold Ka.only
  rw [this]
  rfl
/-- the end of a command's words -/
def Kp.stop (t : List Wi) : Prop := t = [] ∨ Kp.isBar t = true
theorem Kp.stop_args {t : List Wi} (h : Kp.stop t) : Kp.args t = [] := by
  rcases h with rfl | h
  · rfl
  · cases t with
    | nil => rfl
    | cons b t => unfold Kp.args; rw [Kp.bar_arg h]; rfl
theorem Kp.args_app {t : List Wi} (h : Kp.stop t) : ∀ s, Kp.args (s ++ t) = Kp.args s
  | [] => Kp.stop_args h
  | w :: s => by
    rw [List.cons_append]
    unfold Kp.args
    rw [Kp.args_app h s]
theorem Kp.isf_app {t : List Wi} (h : Kp.stop t) : ∀ s, Kp.isf (s ++ t) = Kp.isf s
  | [] => by
    rcases h with rfl | h
    · rfl
    · cases t with
      | nil => rfl
      | cons b t => exact Kp.bar_isf h
  | _ :: _ => rfl
theorem Kp.behind_app {t : List Wi} (h : Kp.stop t) (s : List Wi) : Kp.behind (s ++ t) = Kp.behind s ++ t := by
  unfold Kp.behind
  rw [Kp.isf_app h]
  split
  · rename_i q
    cases s with
    | nil => cases q
    | cons w s => rfl
  · rfl
theorem Kp.cmd_app {t : List Wi} (h : Kp.stop t) (s : List Wi) : Kp.cmd (s ++ t) = Kp.cmd s := by
  unfold Kp.cmd
  rw [Kp.behind_app h, Kp.args_app h]
  congr 1
  cases s with
  | nil =>
    rcases h with rfl | h
    · rfl
    · cases t with
      | nil => rfl
      | cons b t =>
        show (if Kp.isf (b :: t) = true then b.text else []) = []
        rw [Kp.bar_isf h]
        rfl
  | cons w s => rfl
theorem Kp.left_app {t : List Wi} (h : Kp.stop t) (s : List Wi) : Kp.left (s ++ t) = Kp.left s ++ t := by
  unfold Kp.left
  rw [Kp.behind_app h, Kp.args_app h, List.drop_append_of_le_length (Kp.args_le _)]
theorem Kp.arg_is (x : Wi) : (Pi.arg x).2 = ((Ka.arg x).2 && Pi.argMay (Ka.arg x).1) ∧ ((Ka.arg x).2 = true → (Pi.arg x).1 = (Ka.arg x).1) := by
  obtain ⟨k, t, p, m⟩ := x
  unfold Pi.arg Ka.arg Ka.only
  simp only
  have ep : ∀ q : List (List UInt8), q.isEmpty = decide (q = []) := fun q => by cases q <;> simp
  have et : ∀ q : List UInt8, q.isEmpty = decide (q = []) := fun q => by cases q <;> simp
  by_cases k0 : k = 0
  · subst k0
    simp only [Int.reduceEq, if_false, if_true, ne_eq, not_true, false_or, decide_true, Bool.true_and]
    unfold Ka.const
    by_cases hm : m = 0
    · by_cases hp : p = []
      · subst hm hp
        simp only [not_true, or_self, if_false, List.isEmpty_nil, decide_true, Bool.and_self, Bool.and_true]
        by_cases e1 : t = [116, 114, 117, 101]
        · rw [if_pos e1, if_pos e1]; exact ⟨by decide, fun _ => by first | rfl | trivial⟩
        · rw [if_neg e1, if_neg e1]
          by_cases e2 : t = [102, 97, 108, 115, 101]
          · rw [if_pos e2, if_pos e2]; exact ⟨by decide, fun _ => by first | rfl | trivial⟩
          · rw [if_neg e2, if_neg e2]
            by_cases e3 : t = [110, 117, 108, 108]
            · rw [if_pos e3]; exact ⟨by rw [decide_eq_true e3]; decide, fun _ => rfl⟩
            · rw [if_neg e3]; exact ⟨by rw [decide_eq_false e3]; rfl, fun q => by cases q⟩
      · rw [if_pos (.inr hp)]
        simp only [ep, decide_eq_false hp, Bool.false_and, Bool.and_false]
        exact ⟨by first | rfl | trivial, fun q => by cases q⟩
    · rw [if_pos (.inl hm)]
      simp only [decide_eq_false hm, Bool.and_false, Bool.false_and]
      exact ⟨by first | rfl | trivial, fun q => by cases q⟩
  by_cases k1 : k = 1
  · subst k1
    simp only [Int.reduceEq, if_false, if_true]
    refine ⟨?_, fun _ => by first | rfl | trivial⟩
    unfold Pi.argMay
    simp
    try (cases t.isEmpty <;> rfl)
    all_goals (try simp [Bool.and_assoc])
  by_cases k2 : k = 2
  · subst k2
    simp only [Int.reduceEq, if_false, if_true]
    refine ⟨?_, fun _ => by first | rfl | trivial⟩
    unfold Pi.argMay
    simp
  by_cases k3 : k = 3
  · subst k3
    simp only [Int.reduceEq, if_false, if_true]
    refine ⟨?_, fun _ => by first | rfl | trivial⟩
    unfold Pi.argMay
    simp [Bool.and_assoc]
  by_cases k4 : k = 4
  · subst k4
    simp only [Int.reduceEq, if_false, if_true, decide_true, Bool.true_and]
    refine ⟨?_, fun _ => by first | rfl | trivial⟩
    unfold Pi.argMay
    simp [ep]
    cases decide (m = 0) <;> cases decide (p = []) <;> rfl
  · simp only [k0, k1, k2, k3, k4, if_false, ne_eq, not_false_eq_true, true_or, if_true]
    exact ⟨by first | rfl | trivial, fun q => by cases q⟩
theorem Kp.pargs (l : List Wi) : ∀ out, Pi.args l out = if (Kp.args l).length = l.length ∧ (Kp.args l).all Pi.argMay = true then some (out ++ Kp.args l) else none := by
  induction l with
  | nil => intro out; simp [Pi.args, Kp.args]
  | cons w l ih =>
    intro out
    obtain ⟨h1, h2⟩ := Kp.arg_is w
    have hle := Kp.args_le l
    unfold Pi.args Kp.args
    rw [h1, ih]
    cases h3 : (Ka.arg w).2 with
    | false =>
      rw [if_neg (fun q => by simp at q), if_neg (fun q => by have q := q.1; simp at q)]
    | true =>
      rw [if_pos rfl, h2 h3, List.length_cons, List.length_cons, List.all_cons]
      cases h4 : Pi.argMay (Ka.arg w).1 with
      | false => rw [if_neg (fun q => by simp at q), if_neg (fun q => by simp at q)]
      | true =>
        rw [if_pos (show (true && true) = true from rfl)]
        by_cases q : (Kp.args l).length = l.length ∧ (Kp.args l).all Pi.argMay = true
        · rw [if_pos q, if_pos ⟨by omega, by rw [q.2]; rfl⟩, List.append_assoc]
          rfl
        · rw [if_neg q, if_neg (fun q2 => q ⟨by omega, by simpa using q2.2⟩)]
theorem Kp.left_nil (l : List Wi) : Kp.left l = [] ↔ (Kp.args (Kp.behind l)).length = (Kp.behind l).length := by
  have := Kp.args_le (Kp.behind l)
  unfold Kp.left
  rw [List.drop_eq_nil_iff]
  omega
/-- a command's words: read whole, and well formed; or none -/
theorem Kp.command (s : List Wi) (first : Bool) : Pi.command s first = if Kp.left s = [] ∧ Kf.formed first (Kp.cmd s) = true then some (Kp.cmd s) else none := by
  cases s with
  | nil =>
    show none = _
    rw [if_neg]
    intro h
    have := h.2
    cases first <;> cases this
  | cons w r =>
    have hnil := Kp.left_nil (w :: r)
    unfold Pi.command
    simp only
    by_cases hk : w.kind = 0 ∧ Pi.isFn w.text = true
    · rw [if_pos hk]
      by_cases hn : w.num ≠ 0 ∨ w.path ≠ []
      · rw [if_pos hn]
        have ho : Ka.only w 0 = false := by
          unfold Ka.only
          rcases hn with hn | hn
          · rw [decide_eq_false hn, Bool.and_false, Bool.and_false]
          · rw [show w.path.isEmpty = false by cases h : w.path with | nil => exact absurd h hn | cons a b => rfl, Bool.false_and, Bool.and_false]
        have hf : Kp.isf (w :: r) = false := by show (Ka.only w 0 && _) = false; rw [ho]; rfl
        have hb : Kp.behind (w :: r) = w :: r := by unfold Kp.behind; rw [hf]; rfl
        have ha : Kp.args (w :: r) = [] := by
          unfold Kp.args
          rw [if_neg]
          unfold Ka.arg
          rw [if_pos hk.1, ho]
          simp
        rw [if_neg]
        intro h
        have := hnil.1 h.1
        rw [hb, ha] at this
        cases this
      · have hn0 : w.num = 0 := Classical.not_not.1 (fun q => hn (.inl q))
        have hp0 : w.path = [] := Classical.not_not.1 (fun q => hn (.inr q))
        rw [if_neg hn, Kp.pargs]
        have hf : Kp.isf (w :: r) = true := by
          show (Ka.only w 0 && Pi.isFn w.text) = true
          unfold Ka.only
          rw [hk.1, hk.2, hn0, hp0]
          rfl
        have hb : Kp.behind (w :: r) = r := by unfold Kp.behind; rw [hf]; rfl
        have hc : Kp.cmd (w :: r) = ⟨w.text, Kp.args r⟩ := by
          unfold Kp.cmd
          rw [hb]
          show Cm.mk (if Kp.isf (w :: r) = true then w.text else []) _ = _
          rw [hf]
          rfl
        have hfo : Kf.formed first ⟨w.text, Kp.args r⟩ = (Kp.args r).all Pi.argMay := by
          unfold Kf.formed Kf.head
          rw [hk.2]
          rfl
        rw [hb] at hnil
        rw [hc, hfo]
        by_cases q : (Kp.args r).length = r.length ∧ (Kp.args r).all Pi.argMay = true
        · rw [if_pos q, if_pos ⟨hnil.2 q.1, q.2⟩]
          rfl
        · rw [if_neg q, if_neg (fun q2 => q ⟨hnil.1 q2.1, q2.2⟩)]
          rfl
    · rw [if_neg hk, Kp.pargs]
      have hf : Kp.isf (w :: r) = false := by
        show (Ka.only w 0 && Pi.isFn w.text) = false
        unfold Ka.only
        by_cases k0 : w.kind = 0
        · rw [show Pi.isFn w.text = false by cases h : Pi.isFn w.text with | false => rfl | true => exact absurd ⟨k0, h⟩ hk, Bool.and_false]
        · rw [decide_eq_false k0]; rfl
      have hb : Kp.behind (w :: r) = w :: r := by unfold Kp.behind; rw [hf]; rfl
      have hc : Kp.cmd (w :: r) = ⟨[], Kp.args (w :: r)⟩ := by
        unfold Kp.cmd
        rw [hb]
        show Cm.mk (if Kp.isf (w :: r) = true then w.text else []) _ = _
        rw [hf]
        rfl
      rw [hb] at hnil
      rw [hc]
      have hfo : Kf.formed first ⟨[], Kp.args (w :: r)⟩ = ((first && decide ((Kp.args (w :: r)).length = 1)) && (Kp.args (w :: r)).all Pi.argMay) := rfl
      rw [hfo, List.nil_append]
      generalize Kp.args (w :: r) = A at *
      by_cases q : A.length = (w :: r).length ∧ A.all Pi.argMay = true
      · rw [if_pos q]
        simp only
        rw [q.2]
        by_cases q2 : first = true ∧ A.length = 1
        · rw [if_pos q2, if_pos ⟨hnil.2 q.1, by rw [q2.1, decide_eq_true q2.2]; rfl⟩]
        · rw [if_neg q2, if_neg (fun q3 => q2 (by simpa using q3.2))]
      · rw [if_neg q]
        simp only
        rw [if_neg (fun q3 => q ⟨hnil.1 q3.1, by have := q3.2; rw [Bool.and_eq_true] at this; exact this.2⟩)]
theorem Kp.go_seg (t : List Wi) (out : List Cm) : ∀ (s cur : List Wi), (∀ x ∈ s, Pi.bar x = false) → Pi.go (s ++ t) cur out = Pi.go t (cur ++ s) out := by
  intro s
  induction s with
  | nil => intro cur _; rw [List.append_nil]; rfl
  | cons w s ih =>
    intro cur h
    show (if Pi.bar w = true then _ else Pi.go (s ++ t) (cur ++ [w]) out) = _
    rw [h w (List.mem_cons_self ..)]
    rw [if_neg (by decide), ih _ (fun x hx => h x (List.mem_cons_of_mem _ hx)), List.append_assoc]
    rfl
/-- words up to a bar -/
theorem Kp.part (l : List Wi) : ∃ s t, l = s ++ t ∧ (∀ x ∈ s, Pi.bar x = false) ∧ Kp.stop t := by
  induction l with
  | nil => exact ⟨[], [], rfl, fun x hx => (by cases hx), .inl rfl⟩
  | cons w l ih =>
    cases hw : Pi.bar w with
    | true => exact ⟨[], w :: l, rfl, fun x hx => (by cases hx), .inr hw⟩
    | false =>
      obtain ⟨s, t, rfl, h1, h2⟩ := ih
      refine ⟨w :: s, t, rfl, fun x hx => ?_, h2⟩
      rcases List.mem_cons.1 hx with rfl | hx
      · exact hw
      · exact h1 x hx
theorem Kp.left_mem {l : List Wi} : ∀ x ∈ Kp.left l, x ∈ l := by
  intro x hx
  unfold Kp.left at hx
  have hx := List.mem_of_mem_drop hx
  unfold Kp.behind at hx
  split at hx
  · exact List.mem_of_mem_tail hx
  · exact hx
theorem Kp.go (n : Nat) : ∀ (l : List Wi) (out : List Cm), l.length ≤ n → Pi.go l [] out = if (Kp.more n (Kp.left l)).2 = [] ∧ Kf.row out.length (Kp.cmd l :: (Kp.more n (Kp.left l)).1) = true then some (out ++ Kp.cmd l :: (Kp.more n (Kp.left l)).1) else none := by
  induction n with
  | zero =>
    intro l out hl
    have : l = [] := List.eq_nil_of_length_eq_zero (by omega)
    subst this
    unfold Pi.go
    rw [Kp.command, if_neg (fun h => by have := h.2; revert this; cases out.isEmpty <;> (intro q; cases q)), if_neg]
    · rfl
    · intro h
      have := h.2
      unfold Kf.row at this
      rw [Bool.and_eq_true] at this
      have := this.1
      revert this
      cases decide (out.length = 0) <;> (intro q; cases q)
  | succ n ih =>
    intro l out hl
    obtain ⟨s, t, rfl, hs, ht⟩ := Kp.part l
    have he : out.isEmpty = decide (out.length = 0) := by cases out <;> simp
    rw [Kp.go_seg _ _ _ _ hs, List.nil_append, Kp.cmd_app ht, Kp.left_app ht]
    cases hls : Kp.left s with
    | cons x xs =>
      have hx : Pi.bar x = false := hs x (Kp.left_mem x (by rw [hls]; exact List.mem_cons_self ..))
      have hm : Kp.more (n + 1) (x :: xs ++ t) = ([], x :: xs ++ t) := by
        unfold Kp.more
        rw [if_neg]
        show ¬ Pi.bar x = true
        rw [hx]
        decide
      rw [hm, if_neg (fun h => by cases h.1)]
      have hc : Pi.command s out.isEmpty = none := by rw [Kp.command, hls, if_neg (fun h => by cases h.1)]
      cases t with
      | nil => unfold Pi.go; rw [hc]; rfl
      | cons b t =>
        rcases ht with ht | ht
        · cases ht
        · unfold Pi.go
          rw [if_pos (show Pi.bar b = true from ht), hc]
    | nil =>
      rw [List.nil_append]
      have hc : Pi.command s out.isEmpty = if Kf.formed out.isEmpty (Kp.cmd s) = true then some (Kp.cmd s) else none := by
        rw [Kp.command, hls]
        by_cases q : Kf.formed out.isEmpty (Kp.cmd s) = true
        · rw [if_pos q, if_pos ⟨rfl, q⟩]
        · rw [if_neg q, if_neg (fun h => q h.2)]
      rw [he] at hc
      cases t with
      | nil =>
        unfold Pi.go
        rw [he, hc]
        have hm : Kp.more (n + 1) [] = ([], []) := rfl
        rw [hm]
        have hr : Kf.row out.length [Kp.cmd s] = Kf.formed (decide (out.length = 0)) (Kp.cmd s) := by
          unfold Kf.row Kf.row
          rw [Bool.and_true]
        simp only [true_and]
        rw [hr]
        by_cases q : Kf.formed (decide (out.length = 0)) (Kp.cmd s) = true
        · rw [if_pos q, if_pos q]; rfl
        · rw [if_neg q, if_neg q]; rfl
      | cons b t =>
        rcases ht with ht | ht
        · cases ht
        · unfold Pi.go
          rw [if_pos (show Pi.bar b = true from ht), he, hc]
          have hm : Kp.more (n + 1) (b :: t) = (Kp.cmd t :: (Kp.more n (Kp.left t)).1, (Kp.more n (Kp.left t)).2) := by
            show (if Kp.isBar (b :: t) = true then _ else _) = _
            rw [if_pos ht]
            rfl
          rw [hm]
          simp only
          by_cases q : Kf.formed (decide (out.length = 0)) (Kp.cmd s) = true
          · rw [if_pos q]
            simp only
            rw [ih t (out ++ [Kp.cmd s]) (by simp only [List.length_append, List.length_cons] at hl; omega)]
            have hr : Kf.row out.length (Kp.cmd s :: Kp.cmd t :: (Kp.more n (Kp.left t)).1) = Kf.row (out ++ [Kp.cmd s]).length (Kp.cmd t :: (Kp.more n (Kp.left t)).1) := by
              rw [List.length_append, show [Kp.cmd s].length = 1 from rfl]
              show (Kf.formed _ _ && _) = _
              rw [q]
              rfl
            rw [hr, List.append_assoc]
            rfl
          · rw [if_neg q]
            simp only
            rw [if_neg]
            intro h
            have h2 := h.2
            unfold Kf.row at h2
            rw [Bool.and_eq_true] at h2
            exact q h2.1
/-- what Parse reads of words: its commands, and what is left -/
def Kp.read (ws : List Wi) : List Cm × List Wi := (Kp.cmd ws :: (Kp.more ws.length (Kp.left ws)).1, (Kp.more ws.length (Kp.left ws)).2)
theorem Kp.parse (ws : List Wi) : Pi.parse ws = if (Kp.read ws).2 = [] ∧ Kf.row 0 (Kp.read ws).1 = true then (if Kf.few (Kp.read ws).1 = true then ((Kp.read ws).1, 0) else ([], 1501)) else ([], 1500) := by
  unfold Pi.parse
  rw [Kp.go ws.length ws [] (Nat.le_refl _), List.nil_append, List.length_nil]
  show (match (if (Kp.read ws).2 = [] ∧ Kf.row 0 (Kp.read ws).1 = true then some (Kp.read ws).1 else none) with | none => _ | some cs => _) = _
  generalize Kp.read ws = X
  by_cases q : X.2 = [] ∧ Kf.row 0 X.1 = true
  · rw [if_pos q, if_pos q]
    simp only
    have hf : Kf.few X.1 = true ↔ ¬ ((X.1.any fun c => decide (8 < c.args.length)) = true ∨ 8 < X.1.length) := by
      unfold Kf.few
      simp only [Bool.and_eq_true, List.all_eq_true, decide_eq_true_eq, List.any_eq_true, not_or, not_exists, not_and]
      constructor
      · rintro ⟨h1, h2⟩
        exact ⟨fun c hc => by have := h1 c hc; omega, by omega⟩
      · rintro ⟨h1, h2⟩
        exact ⟨fun c hc => by have := h1 c hc; omega, by omega⟩
    by_cases q2 : (X.1.any fun c => decide (8 < c.args.length)) = true ∨ 8 < X.1.length
    · rw [if_pos q2, if_neg (fun h => hf.1 h q2)]
    · rw [if_neg q2, if_pos (hf.2 q2)]
  · rw [if_neg q, if_neg q]
end Go.Proofs.YtjppobeomocgbaaGreatDoor

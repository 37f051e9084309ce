/-
  PLAIN: what is put is read again.
-/
import Derived.Test.YtboalkfagfgnpaaGreatDoorBJBacktoJPut
namespace Go.Proofs.YtboalkfagfgnpaaGreatDoor
/-- parts i to i + k, a ',' between -/
def Js.join (g : Nat → List UInt8) (i : Nat) : Nat → List UInt8
  | 0 => g i
  | k + 1 => g i ++ 44 :: Js.join g (i + 1) k
theorem Js.join_more (g : Nat → List UInt8) : ∀ (k i : Nat), Js.join g i (k + 1) = Js.join g i k ++ 44 :: g (i + k + 1)
  | 0, i => rfl
  | k + 1, i => by
    rw [Js.join, Js.join_more g k (i + 1), Js.join, List.append_assoc, List.cons_append, show i + 1 + k + 1 = i + (k + 1) + 1 by omega]
theorem Js.cat_join (g : Nat → List UInt8) : ∀ k, Js.cat (fun i => Js.comma i ++ g i) (k + 1) = Js.join g 0 k
  | 0 => rfl
  | k + 1 => by
    rw [Js.cat, Js.cat_join g k, Js.join_more g k 0]
    rw [show Js.comma (k + 1) = [44] from rfl, show 0 + k + 1 = k + 1 by omega]
    rfl
/-- trees and keys i to i + k -/
def Js.trees (it : Nat → Vt) (i : Nat) : Nat → List Vt
  | 0 => [Js.back (it i)]
  | k + 1 => Js.back (it i) :: Js.trees it (i + 1) k
def Js.names (ks : Nat → ByteArray) (i : Nat) : Nat → List ByteArray
  | 0 => [ks i]
  | k + 1 => ks i :: Js.names ks (i + 1) k
theorem Js.trees_len (it : Nat → Vt) : ∀ (k i : Nat), (Js.trees it i k).length = k + 1
  | 0, _ => rfl
  | k + 1, i => by rw [Js.trees, List.length_cons, Js.trees_len it k (i + 1)]
theorem Js.names_len (ks : Nat → ByteArray) : ∀ (k i : Nat), (Js.names ks i k).length = k + 1
  | 0, _ => rfl
  | k + 1, i => by rw [Js.names, List.length_cons, Js.names_len ks k (i + 1)]
theorem Js.trees_get (it : Nat → Vt) : ∀ (k i j : Nat), j < k + 1 → (Js.trees it i k).getD j .nil = Js.back (it (i + j))
  | 0, i, j, h => by
    have : j = 0 := by omega
    subst this
    rfl
  | k + 1, i, 0, _ => rfl
  | k + 1, i, j + 1, h => by
    rw [Js.trees, List.getD_cons_succ, Js.trees_get it k (i + 1) j (by omega), show i + 1 + j = i + (j + 1) by omega]
theorem Js.names_get (ks : Nat → ByteArray) : ∀ (k i j : Nat), j < k + 1 → (Js.names ks i k).getD j ⟨#[]⟩ = ks (i + j)
  | 0, i, j, h => by
    have : j = 0 := by omega
    subst this
    rfl
  | k + 1, i, 0, _ => rfl
  | k + 1, i, j + 1, h => by
    rw [Js.names, List.getD_cons_succ, Js.names_get ks k (i + 1) j (by omega), show i + 1 + j = i + (j + 1) by omega]
theorem Js.getD_beyond {α : Type} (l : List α) (j : Nat) (d : α) (h : l.length ≤ j) : l.getD j d = d := by
  rw [List.getD_eq_getElem?_getD, List.getElem?_eq_none h]
  rfl
theorem Js.quoted_key (s t : List UInt8) : Js.key true (Js.quoted s ++ 58 :: t) = some ([⟨(Pl.normL s).toArray⟩], t) := by
  have h1 : Js.is 34 (Js.quoted s ++ 58 :: t) = some (Js.esc s ++ 34 :: 58 :: t) := by
    have : Js.quoted s ++ 58 :: t = 34 :: (Js.esc s ++ 34 :: 58 :: t) := by simp [Js.quoted]
    rw [this]
    exact Js.is_yes rfl
  have h2 := Js.text_put s (58 :: t)
  have h3 : Js.is 58 (58 :: t) = some t := Js.is_yes rfl
  unfold Js.key
  rw [if_pos rfl, h1]
  show (match Js.text (Js.esc s ++ 34 :: 58 :: t) with | none => none | some (k, r1) => _) = _
  rw [h2]
  show (match Js.is 58 (58 :: t) with | none => none | some r2 => _) = _
  rw [h3]
theorem Js.itemsF_end {val : List UInt8 → Option (Vt × List UInt8)} {rec : Bool} {e : UInt8} {f : Nat} {l r1 r2 r3 : List UInt8} {ks : List ByteArray} {t : Vt} (h1 : Js.key rec l = some (ks, r1)) (h2 : val r1 = some (t, r2)) (h3 : Js.is e r2 = some r3) : Js.itemsF val rec e (f + 1) l = some ((ks, [t]), r3) := by
  rw [Js.itemsF]
  simp only [h1, h2, h3]
theorem Js.itemsF_next {val : List UInt8 → Option (Vt × List UInt8)} {rec : Bool} {e : UInt8} {f : Nat} {l r1 r2 r3 : List UInt8} {ks : List ByteArray} {t : Vt} (h1 : Js.key rec l = some (ks, r1)) (h2 : val r1 = some (t, r2)) (h3 : Js.is e r2 = none) (h4 : Js.is 44 r2 = some r3) : Js.itemsF val rec e (f + 1) l = (Js.itemsF val rec e f r3).map fun p => ((ks ++ p.1.1, t :: p.1.2), p.2) := by
  rw [Js.itemsF]
  simp only [h1, h2, h3, h4]
theorem Js.itemsF_stop {val : List UInt8 → Option (Vt × List UInt8)} {rec : Bool} {e : UInt8} {f : Nat} {l r1 r2 : List UInt8} {ks : List ByteArray} {t : Vt} (h1 : Js.key rec l = some (ks, r1)) (h2 : val r1 = some (t, r2)) (h3 : Js.is e r2 = none) (h4 : Js.is 44 r2 = none) : Js.itemsF val rec e (f + 1) l = none := by
  rw [Js.itemsF]
  simp only [h1, h2, h3, h4]
theorem Js.itemsF_val {val : List UInt8 → Option (Vt × List UInt8)} {rec : Bool} {e : UInt8} {f : Nat} {l r1 : List UInt8} {ks : List ByteArray} (h1 : Js.key rec l = some (ks, r1)) (h2 : val r1 = none) : Js.itemsF val rec e (f + 1) l = none := by
  rw [Js.itemsF]
  simp only [h1, h2]
theorem Js.itemsF_key {val : List UInt8 → Option (Vt × List UInt8)} {rec : Bool} {e : UInt8} {f : Nat} {l : List UInt8} (h1 : Js.key rec l = none) : Js.itemsF val rec e (f + 1) l = none := by
  rw [Js.itemsF]
  simp only [h1]
/-- the parts of a list are read -/
theorem Js.items_list {val : List UInt8 → Option (Vt × List UInt8)} {it : Nat → Vt} {n : Nat} (hv : ∀ i r, i < n → Js.ends r = true → val (Js.put (it i) ++ r) = some (Js.back (it i), r)) (r : List UInt8) : ∀ (k i f : Nat), i + k < n → k < f → Js.itemsF val false 93 f (Js.join (fun i => Js.put (it i)) i k ++ 93 :: r) = some (([], Js.trees it i k), r)
  | k, i, 0, _, hf => by omega
  | 0, i, f + 1, h, _ => Js.itemsF_end rfl (hv i (93 :: r) (by omega) rfl) (Js.is_yes rfl)
  | k + 1, i, f + 1, h, hf => by
    rw [Js.join, List.append_assoc, List.cons_append, Js.itemsF_next rfl (hv i _ (by omega) rfl) (Js.is_no rfl (by decide)) (Js.is_yes rfl), Js.items_list hv r k (i + 1) f (by omega) (by omega)]
    rfl
theorem Js.arr (b : ByteArray) : (⟨b.data.toList.toArray⟩ : ByteArray) = b := by
  cases b
  simp
theorem Js.items_rec {val : List UInt8 → Option (Vt × List UInt8)} {it : Nat → Vt} {ks : Nat → ByteArray} {n : Nat} (hv : ∀ i r, i < n → Js.ends r = true → val (Js.put (it i) ++ r) = some (Js.back (it i), r)) (hk : ∀ i, i < n → Pl.mayL (ks i).data.toList = true) (r : List UInt8) : ∀ (k i f : Nat), i + k < n → k < f → Js.itemsF val true 125 f (Js.join (fun i => Js.quoted (ks i).data.toList ++ 58 :: Js.put (it i)) i k ++ 125 :: r) = some ((Js.names ks i k, Js.trees it i k), r)
  | k, i, 0, _, hf => by omega
  | 0, i, f + 1, h, _ => by
    have e : (⟨(Pl.normL (ks i).data.toList).toArray⟩ : ByteArray) = ks i := by rw [Pl.norm_of_may _ (hk i (by omega))]
    have hq := Js.quoted_key (ks i).data.toList (Js.put (it i) ++ 125 :: r)
    rw [e] at hq
    rw [Js.join, List.append_assoc, List.cons_append]
    exact Js.itemsF_end hq (hv i (125 :: r) (by omega) rfl) (Js.is_yes rfl)
  | k + 1, i, f + 1, h, hf => by
    have e : (⟨(Pl.normL (ks i).data.toList).toArray⟩ : ByteArray) = ks i := by rw [Pl.norm_of_may _ (hk i (by omega))]
    have hq := Js.quoted_key (ks i).data.toList (Js.put (it i) ++ 44 :: (Js.join (fun i => Js.quoted (ks i).data.toList ++ 58 :: Js.put (it i)) (i + 1) k ++ 125 :: r))
    rw [e] at hq
    rw [Js.join, List.append_assoc, List.append_assoc, List.cons_append, List.cons_append, Js.itemsF_next hq (hv i _ (by omega) rfl) (Js.is_no rfl (by decide)) (Js.is_yes rfl), Js.items_rec hv hk r k (i + 1) f (by omega) (by omega)]
    rfl
/-- with what a text of a value begins -/
theorem Js.real_head (b : Nat) : ∃ c t, Js.real b = c :: t ∧ Js.begins c = true := by
  unfold Js.real
  split
  · exact ⟨_, _, rfl, rfl⟩
  · rename_i h1
    split
    · exact ⟨_, _, rfl, rfl⟩
    · rename_i h2
      have hk : Re.kind b = 2 ∨ Re.kind b = 3 := by
        have : Re.kind b ≤ 4 := by
          unfold Re.kind
          repeat' split
          all_goals omega
        omega
      unfold Re.text
      rcases hk with hk | hk
      · rw [hk]
        show ∃ c t, Re.sign b ++ [48] = c :: t ∧ _
        unfold Re.sign
        split
        · exact ⟨_, _, rfl, rfl⟩
        · exact ⟨_, _, rfl, rfl⟩
      · rw [hk]
        show ∃ c t, Lib.itoa (Re.whole b) = c :: t ∧ _
        obtain ⟨c, t, e, h⟩ := Js.itoa_head (Re.whole b)
        refine ⟨c, t, e, ?_⟩
        unfold Js.begins
        rcases h with h | rfl
        · rw [h]; rfl
        · rfl
theorem Js.put_head {d : Nat} {t : Vt} (h : Js.Ok d t) : ∃ c l, Js.put t = c :: l ∧ Js.begins c = true := by
  cases t with
  | nil => cases d <;> exact h.elim
  | mk k x b s n it m ks =>
    rw [Js.put]
    split
    · exact ⟨_, _, rfl, rfl⟩
    · split
      · split
        · exact ⟨_, _, rfl, rfl⟩
        · exact ⟨_, _, rfl, rfl⟩
      · split
        · obtain ⟨c, t, e, h⟩ := Js.itoa_head x
          refine ⟨c, t, e, ?_⟩
          unfold Js.begins
          rcases h with h | rfl
          · rw [h]; rfl
          · rfl
        · split
          · exact Js.real_head b
          · split
            · exact ⟨_, _, rfl, rfl⟩
            · split
              · exact ⟨_, _, rfl, rfl⟩
              · exact ⟨_, _, rfl, rfl⟩
theorem Js.join_head {g : Nat → List UInt8} {i k : Nat} {c : UInt8} {l : List UInt8} (h : g i = c :: l) : ∃ l', Js.join g i k = c :: l' := by
  cases k with
  | zero => exact ⟨l, h⟩
  | succ k =>
    rw [Js.join, h]
    exact ⟨_, rfl⟩
end Go.Proofs.YtboalkfagfgnpaaGreatDoor
/-
  PLAIN: what is put is read again.
-/
namespace Go.Proofs.YtboalkfagfgnpaaGreatDoor
theorem Js.at_quote (val : List UInt8 → Option (Vt × List UInt8)) (l : List UInt8) : Js.at val (34 :: l) = (Js.text l).map fun p => (Js.leaf 4 0 0 ⟨p.1.toArray⟩, p.2) := by
  simp [Js.at, Pl.pre, List.isPrefixOf]
theorem Js.at_list (val : List UInt8 → Option (Vt × List UInt8)) (l : List UInt8) : Js.at val (91 :: l) = (Js.list val false 93 l).map fun p => (Js.node 5 p.1.1 p.1.2, p.2) := by
  simp [Js.at, Pl.pre, List.isPrefixOf]
theorem Js.at_rec (val : List UInt8 → Option (Vt × List UInt8)) (l : List UInt8) : Js.at val (123 :: l) = (Js.list val true 125 l).map fun p => (Js.node 6 p.1.1 p.1.2, p.2) := by
  simp [Js.at, Pl.pre, List.isPrefixOf]
theorem Js.at_null (val : List UInt8 → Option (Vt × List UInt8)) (l : List UInt8) : Js.at val (110 :: 117 :: 108 :: 108 :: l) = some (Js.leaf 0 0 0 ⟨#[]⟩, l) := by
  simp [Js.at, Pl.pre, List.isPrefixOf]
theorem Js.at_true (val : List UInt8 → Option (Vt × List UInt8)) (l : List UInt8) : Js.at val (116 :: 114 :: 117 :: 101 :: l) = some (Js.leaf 1 1 0 ⟨#[]⟩, l) := by
  simp [Js.at, Pl.pre, List.isPrefixOf]
theorem Js.at_false (val : List UInt8 → Option (Vt × List UInt8)) (l : List UInt8) : Js.at val (102 :: 97 :: 108 :: 115 :: 101 :: l) = some (Js.leaf 1 0 0 ⟨#[]⟩, l) := by
  simp [Js.at, Pl.pre, List.isPrefixOf]
theorem Js.at_quoted (val : List UInt8 → Option (Vt × List UInt8)) (s r : List UInt8) : Js.at val (Js.quoted s ++ r) = some (Js.leaf 4 0 0 ⟨(Pl.normL s).toArray⟩, r) := by
  have e : Js.quoted s ++ r = 34 :: (Js.esc s ++ 34 :: r) := by simp [Js.quoted]
  rw [e, Js.at_quote, Js.text_put]
  rfl
theorem Js.ascii_norm {l : List UInt8} (h : ∀ c ∈ l, c ≠ 0 ∧ c.toNat < 128) : Pl.normL l = l := by
  refine Pl.norm_of_may l ?_
  have := Pl.may_ascii l [] h
  rw [List.append_nil] at this
  rw [this]
  rfl
theorem Js.digit_ascii (c : UInt8) (h : Pl.digit c = true) : c ≠ 0 ∧ c.toNat < 128 := by
  unfold Pl.digit at h
  simp only [Bool.and_eq_true, decide_eq_true_eq] at h
  exact ⟨fun q => by rw [q] at h; exact absurd h.1 (by decide), by omega⟩
theorem Js.itoa_ascii (x : Int) : ∀ c ∈ Lib.itoa x, c ≠ 0 ∧ c.toNat < 128 := by
  intro c hc
  unfold Lib.itoa at hc
  split at hc
  · rcases List.mem_cons.1 hc with rfl | q
    · decide
    · exact Js.digit_ascii c (Js.dec_all _ c q)
  · exact Js.digit_ascii c (Js.dec_all _ c hc)
theorem Js.real_ascii (b : Nat) : ∀ c ∈ Re.text b, c ≠ 0 ∧ c.toNat < 128 := by
  have hs : ∀ c ∈ Re.sign b, c ≠ 0 ∧ c.toNat < 128 := by
    unfold Re.sign
    split <;> decide
  intro c hc
  unfold Re.text at hc
  split at hc
  · revert hc
    revert c
    decide
  · rcases List.mem_append.1 hc with q | q
    · exact hs c q
    · clear hc
      revert q
      revert c
      decide
  · rcases List.mem_append.1 hc with q | q
    · exact hs c q
    · clear hc
      revert q
      revert c
      decide
  · exact Js.itoa_ascii _ c hc
  · rcases List.mem_append.1 hc with q | q
    · rcases List.mem_append.1 q with q | q
      · rcases List.mem_append.1 q with q | q
        · exact hs c q
        · exact Js.digit_ascii c (Js.dec_all _ c q)
      · rw [List.mem_singleton.1 q]
        decide
    · exact Js.itoa_ascii _ c q
theorem Js.kind_le (b : Nat) : Re.kind b ≤ 4 := by
  unfold Re.kind
  repeat' split
  all_goals omega
theorem Js.whole_range (b : Nat) : -9007199254740991 ≤ Re.whole b ∧ Re.whole b ≤ 9007199254740991 := by
  have := Re.abs_lt b
  unfold Re.whole Re.sgn
  repeat' split
  all_goals omega
theorem Js.zero_bits (b : Nat) (hb : b < 18446744073709551616) (h : Re.kind b = 2) : b = 0 ∨ b = 9223372036854775808 := by
  unfold Re.kind at h
  split at h
  · split at h <;> omega
  · rename_i h1
    split at h
    · rename_i h2
      unfold Re.mag at h2
      split at h2
      · rename_i h3
        unfold Re.ef at h3
        unfold Re.fr at h2
        omega
      · omega
    · split at h <;> omega
theorem Js.at_real (val : List UInt8 → Option (Vt × List UInt8)) (b : Nat) (hb : b < 18446744073709551616) {r : List UInt8} (hr : Js.ends r = true) : Js.at val (Js.real b ++ r) = some (Js.realBack b, r) := by
  unfold Js.real Js.realBack
  by_cases h1 : Re.kind b < 2
  · rw [if_pos h1, if_pos h1]
    exact Js.at_null val r
  · rw [if_neg h1, if_neg h1]
    by_cases h4 : Re.kind b = 4
    · rw [if_pos h4, if_pos h4, Js.at_quoted, Js.ascii_norm (Js.real_ascii b)]
    · rw [if_neg h4, if_neg h4]
      have hk : Re.kind b = 2 ∨ Re.kind b = 3 := by have := Js.kind_le b; omega
      rcases hk with hk | hk
      · rcases Js.zero_bits b hb hk with rfl | rfl
        · rw [if_neg (by decide)]
          have e : Re.text 0 = Lib.itoa 0 := by
            unfold Re.text
            rw [hk]
            show Re.sign 0 ++ [48] = _
            unfold Lib.itoa
            rw [if_neg (by decide), Js.dec_unfold]
            rfl
          have hw : Re.whole 0 = 0 := by decide +kernel
          obtain ⟨c, t, e1, h⟩ := Js.itoa_head 0
          have hn := Js.number_itoa 0 (by decide) (by decide) hr
          rw [e, hw]
          rw [e1] at hn ⊢
          exact (Js.at_number h).trans hn
        · rw [if_pos rfl]
          have e : Re.text 9223372036854775808 = [45, 48] := by
            unfold Re.text
            rw [hk]
            rfl
          rw [e]
          exact (Js.at_number (.inr rfl)).trans (Js.number_zero hr)
      · have hne : ¬ b = 9223372036854775808 := by
          rintro rfl
          exact absurd hk (by decide)
        rw [if_neg hne]
        have e : Re.text b = Lib.itoa (Re.whole b) := by
          unfold Re.text
          rw [hk]
          rfl
        obtain ⟨c, t, e1, h⟩ := Js.itoa_head (Re.whole b)
        have hn := Js.number_itoa (Re.whole b) (Js.whole_range b).1 (Js.whole_range b).2 hr
        rw [e]
        rw [e1] at hn ⊢
        exact (Js.at_number h).trans hn
theorem Js.node_list (it : Nat → Vt) (k : Nat) : Js.node 5 [] (Js.trees it 0 k) = .mk 5 0 0 ⟨#[]⟩ (k + 1) (fun i => if i < k + 1 then Js.back (it i) else .nil) 0 (fun _ => ⟨#[]⟩) := by
  unfold Js.node
  rw [Js.trees_len]
  congr 1
  funext i
  split
  · rename_i h
    rw [Js.trees_get it k 0 i h, Nat.zero_add]
  · exact Js.getD_beyond _ _ _ (by rw [Js.trees_len]; omega)
theorem Js.node_rec (it : Nat → Vt) (ks : Nat → ByteArray) (k : Nat) : Js.node 6 (Js.names ks 0 k) (Js.trees it 0 k) = .mk 6 0 0 ⟨#[]⟩ (k + 1) (fun i => if i < k + 1 then Js.back (it i) else .nil) (k + 1) (fun j => if j < k + 1 then ks j else ⟨#[]⟩) := by
  unfold Js.node
  rw [Js.trees_len, Js.names_len]
  congr 1
  · funext i
    split
    · rename_i h
      rw [Js.trees_get it k 0 i h, Nat.zero_add]
    · exact Js.getD_beyond _ _ _ (by rw [Js.trees_len]; omega)
  · funext j
    split
    · rename_i h
      rw [Js.names_get ks k 0 j h, Nat.zero_add]
    · exact Js.getD_beyond _ _ _ (by rw [Js.names_len]; omega)
theorem Js.formed_leaf {k x : Int} {b : Nat} {s : ByteArray} {n m : Nat} {ks : Nat → ByteArray} (h : Vt.formed k x b s n m ks = true) : (k = 0 ∧ x = 0) ∨ (k = 1 ∧ (x = 0 ∨ x = 1)) ∨ (k = 2 ∧ -9007199254740991 ≤ x ∧ x ≤ 9007199254740991) ∨ k = 3 ∨ k = 4 ∨ (k = 5 ∧ m = 0) ∨ (k = 6 ∧ m = n) := by
  unfold Vt.formed at h
  split at h
  · simp only [Bool.and_eq_true, decide_eq_true_eq] at h
    exact .inl ⟨by assumption, h.1.1.1.1⟩
  · split at h
    · simp only [Bool.and_eq_true, Bool.or_eq_true, decide_eq_true_eq] at h
      exact .inr (.inl ⟨by assumption, h.1.1.1.1⟩)
    · split at h
      · simp only [Bool.and_eq_true, decide_eq_true_eq] at h
        exact .inr (.inr (.inl ⟨by assumption, h.1.1.1.1.1, h.1.1.1.1.2⟩))
      · split at h
        · exact .inr (.inr (.inr (.inl (by assumption))))
        · split at h
          · exact .inr (.inr (.inr (.inr (.inl (by assumption)))))
          · split at h
            · simp only [Bool.and_eq_true, decide_eq_true_eq] at h
              exact .inr (.inr (.inr (.inr (.inr (.inl ⟨by assumption, h.2⟩)))))
            · split at h
              · simp only [Bool.and_eq_true, decide_eq_true_eq] at h
                exact .inr (.inr (.inr (.inr (.inr (.inr ⟨by assumption, h.1.1.1.1.2⟩)))))
              · cases h
theorem Js.value_put : ∀ (d : Nat) (t : Vt) (r : List UInt8), Js.Ok d t → Js.Keys d t → Js.ends r = true → Js.value d (Js.put t ++ r) = some (Js.back t, r)
  | 0, _, _, h, _, _ => h.elim
  | d + 1, .nil, _, h, _, _ => h.elim
  | d + 1, .mk k x b s n it m ks, r, h, hk, hr => by
    obtain ⟨c, l, e, hc⟩ := Js.put_head h
    have hw : Js.ws (Js.put (.mk k x b s n it m ks) ++ r) = Js.put (.mk k x b s n it m ks) ++ r := by
      rw [e]
      exact Js.ws_stay (Js.begins_facts c hc).1
    rw [Js.value, hw]
    clear hw e hc
    obtain ⟨hf, hb, hi⟩ := h
    obtain ⟨hkm, hki⟩ := hk
    have hv : ∀ i r, i < n → Js.ends r = true → Js.value d (Js.put (it i) ++ r) = some (Js.back (it i), r) := fun i r hin hr => Js.value_put d (it i) r (hi i hin) (hki i hin) hr
    rw [Js.put, Js.back]
    rcases Js.formed_leaf hf with ⟨rfl, rfl⟩ | ⟨rfl, hx⟩ | ⟨rfl, hx⟩ | rfl | rfl | ⟨rfl, rfl⟩ | ⟨rfl, rfl⟩
    · exact Js.at_null _ r
    · rcases hx with rfl | rfl
      · exact Js.at_false _ r
      · exact Js.at_true _ r
    · obtain ⟨c, t, e1, h⟩ := Js.itoa_head x
      have hn := Js.number_itoa x hx.1 hx.2 hr
      show Js.at _ (Lib.itoa x ++ r) = some (Js.leaf 2 x 0 ⟨#[]⟩, r)
      rw [e1] at hn ⊢
      exact (Js.at_number h).trans hn
    · exact Js.at_real _ b hb hr
    · exact Js.at_quoted _ _ r
    · show Js.at _ (91 :: (Js.cat (fun i => Js.comma i ++ Js.put (it i)) n ++ [93]) ++ r) = some (.mk 5 0 0 ⟨#[]⟩ n (fun i => if i < n then Js.back (it i) else .nil) 0 (fun j => if j < 0 then ks j else ⟨#[]⟩), r)
      have e : 91 :: (Js.cat (fun i => Js.comma i ++ Js.put (it i)) n ++ [93]) ++ r = 91 :: (Js.cat (fun i => Js.comma i ++ Js.put (it i)) n ++ 93 :: r) := by simp
      rw [e, Js.at_list]
      cases n with
      | zero =>
        have hl : Js.list (Js.value d) false 93 (93 :: r) = some (([], []), r) := by
          unfold Js.list
          rw [Js.is_yes rfl]
        show (Js.list (Js.value d) false 93 (93 :: r)).map _ = _
        rw [hl]
        rfl
      | succ k =>
        rw [Js.cat_join]
        obtain ⟨c, l, e0, hc⟩ := Js.put_head (hi 0 (by omega))
        have hne := (Js.begins_facts c hc)
        obtain ⟨l', el⟩ := Js.join_head (g := fun i => Js.put (it i)) (i := 0) (k := k) e0
        have hno : Js.is 93 (Js.join (fun i => Js.put (it i)) 0 k ++ 93 :: r) = none := by
          rw [el]
          exact Js.is_no hne.1 hne.2.1
        have hlen : k < (Js.join (fun i => Js.put (it i)) 0 k ++ 93 :: r).length := by
          have : ∀ k i, k ≤ (Js.join (fun i => Js.put (it i)) i k).length := by
            intro k
            induction k with
            | zero => intro i; exact Nat.zero_le _
            | succ k ih =>
              intro i
              rw [Js.join, List.length_append, List.length_cons]
              have := ih (i + 1)
              omega
          have := this k 0
          rw [List.length_append, List.length_cons]
          omega
        unfold Js.list
        rw [hno]
        show (Js.itemsF (Js.value d) false 93 _ (Js.join (fun i => Js.put (it i)) 0 k ++ 93 :: r)).map _ = _
        rw [Js.items_list hv r k 0 _ (by omega) hlen]
        show some (Js.node 5 [] (Js.trees it 0 k), r) = _
        rw [Js.node_list]
        rfl
    · show Js.at _ (123 :: (Js.cat (fun i => Js.comma i ++ (Js.quoted (ks i).data.toList ++ 58 :: Js.put (it i))) m ++ [125]) ++ r) = some (.mk 6 0 0 ⟨#[]⟩ m (fun i => if i < m then Js.back (it i) else .nil) m (fun j => if j < m then ks j else ⟨#[]⟩), r)
      have e : 123 :: (Js.cat (fun i => Js.comma i ++ (Js.quoted (ks i).data.toList ++ 58 :: Js.put (it i))) m ++ [125]) ++ r = 123 :: (Js.cat (fun i => Js.comma i ++ (Js.quoted (ks i).data.toList ++ 58 :: Js.put (it i))) m ++ 125 :: r) := by simp
      rw [e, Js.at_rec]
      cases m with
      | zero =>
        have hl : Js.list (Js.value d) true 125 (125 :: r) = some (([], []), r) := by
          unfold Js.list
          rw [Js.is_yes rfl]
        show (Js.list (Js.value d) true 125 (125 :: r)).map _ = _
        rw [hl]
        rfl
      | succ k =>
        rw [Js.cat_join]
        obtain ⟨l', el⟩ := Js.join_head (g := fun i => Js.quoted (ks i).data.toList ++ 58 :: Js.put (it i)) (i := 0) (k := k) (c := 34) (l := (Js.esc (ks 0).data.toList ++ [34]) ++ 58 :: Js.put (it 0)) rfl
        have hno : Js.is 125 (Js.join (fun i => Js.quoted (ks i).data.toList ++ 58 :: Js.put (it i)) 0 k ++ 125 :: r) = none := by
          rw [el]
          exact Js.is_no rfl (by decide)
        have hlen : k < (Js.join (fun i => Js.quoted (ks i).data.toList ++ 58 :: Js.put (it i)) 0 k ++ 125 :: r).length := by
          have : ∀ k i, k ≤ (Js.join (fun i => Js.quoted (ks i).data.toList ++ 58 :: Js.put (it i)) i k).length := by
            intro k
            induction k with
            | zero => intro i; exact Nat.zero_le _
            | succ k ih =>
              intro i
              rw [Js.join, List.length_append, List.length_cons]
              have := ih (i + 1)
              omega
          have := this k 0
          rw [List.length_append, List.length_cons]
          omega
        unfold Js.list
        rw [hno]
        show (Js.itemsF (Js.value d) true 125 _ (Js.join (fun i => Js.quoted (ks i).data.toList ++ 58 :: Js.put (it i)) 0 k ++ 125 :: r)).map _ = _
        rw [Js.items_rec hv hkm r k 0 _ (by omega) hlen]
        show some (Js.node 6 (Js.names ks 0 k) (Js.trees it 0 k), r) = _
        rw [Js.node_rec]
end Go.Proofs.YtboalkfagfgnpaaGreatDoor

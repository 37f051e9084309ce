/-
  PLAIN: what is put is read again.
-/
import Derived.Test.YtiajclmhimkpnaaDoorBJPuttoJPut2
namespace Go.Proofs.YtiajclmhimkpnaaDoor
theorem Js.at_quote (val : List UInt8 → Option (Vt × List UInt8)) (l : List UInt8) : Js.at val (34 :: l) = (Js.text l).map fun p => (Js.leaf 4 0 0 ⟨p.1.toArray⟩, p.2) := by
  simp [Js.at, Pl.pre, List.isPrefixOf]
theorem Js.at_list (val : List UInt8 → Option (Vt × List UInt8)) (l : List UInt8) : Js.at val (91 :: l) = (Js.list val false 93 l).map fun p => (Js.node 5 p.1.1 p.1.2, p.2) := by
  simp [Js.at, Pl.pre, List.isPrefixOf]
theorem Js.at_rec (val : List UInt8 → Option (Vt × List UInt8)) (l : List UInt8) : Js.at val (123 :: l) = (Js.list val true 125 l).map fun p => (Js.node 6 p.1.1 p.1.2, p.2) := by
  simp [Js.at, Pl.pre, List.isPrefixOf]
theorem Js.at_null (val : List UInt8 → Option (Vt × List UInt8)) (l : List UInt8) : Js.at val (110 :: 117 :: 108 :: 108 :: l) = some (Js.leaf 0 0 0 ⟨#[]⟩, l) := by
  simp [Js.at, Pl.pre, List.isPrefixOf]
theorem Js.at_true (val : List UInt8 → Option (Vt × List UInt8)) (l : List UInt8) : Js.at val (116 :: 114 :: 117 :: 101 :: l) = some (Js.leaf 1 1 0 ⟨#[]⟩, l) := by
  simp [Js.at, Pl.pre, List.isPrefixOf]
theorem Js.at_false (val : List UInt8 → Option (Vt × List UInt8)) (l : List UInt8) : Js.at val (102 :: 97 :: 108 :: 115 :: 101 :: l) = some (Js.leaf 1 0 0 ⟨#[]⟩, l) := by
  simp [Js.at, Pl.pre, List.isPrefixOf]
theorem Js.at_quoted (val : List UInt8 → Option (Vt × List UInt8)) (s r : List UInt8) : Js.at val (Js.quoted s ++ r) = some (Js.leaf 4 0 0 ⟨(Pl.normL s).toArray⟩, r) := by
  have e : Js.quoted s ++ r = 34 :: (Js.esc s ++ 34 :: r) := by simp [Js.quoted]
  rw [e, Js.at_quote, Js.text_put]
  rfl
theorem Js.ascii_norm {l : List UInt8} (h : ∀ c ∈ l, c ≠ 0 ∧ c.toNat < 128) : Pl.normL l = l := by
  refine Pl.norm_of_may l ?_
  have := Pl.may_ascii l [] h
  rw [List.append_nil] at this
  rw [this]
  rfl
theorem Js.digit_ascii (c : UInt8) (h : Pl.digit c = true) : c ≠ 0 ∧ c.toNat < 128 := by
  unfold Pl.digit at h
  simp only [Bool.and_eq_true, decide_eq_true_eq] at h
  exact ⟨fun q => by rw [q] at h; exact absurd h.1 (by decide), by omega⟩
theorem Js.itoa_ascii (x : Int) : ∀ c ∈ Lib.itoa x, c ≠ 0 ∧ c.toNat < 128 := by
  intro c hc
  unfold Lib.itoa at hc
  split at hc
  · rcases List.mem_cons.1 hc with rfl | q
    · decide
    · exact Js.digit_ascii c (Js.dec_all _ c q)
  · exact Js.digit_ascii c (Js.dec_all _ c hc)
theorem Js.real_ascii (b : Nat) : ∀ c ∈ Re.text b, c ≠ 0 ∧ c.toNat < 128 := by
  have hs : ∀ c ∈ Re.sign b, c ≠ 0 ∧ c.toNat < 128 := by
    unfold Re.sign
    split <;> decide
  intro c hc
  unfold Re.text at hc
  split at hc
  · revert hc
    revert c
    decide
  · rcases List.mem_append.1 hc with q | q
    · exact hs c q
    · clear hc
      revert q
      revert c
      decide
  · rcases List.mem_append.1 hc with q | q
    · exact hs c q
    · clear hc
      revert q
      revert c
      decide
  · exact Js.itoa_ascii _ c hc
  · rcases List.mem_append.1 hc with q | q
    · rcases List.mem_append.1 q with q | q
      · rcases List.mem_append.1 q with q | q
        · exact hs c q
        · exact Js.digit_ascii c (Js.dec_all _ c q)
      · rw [List.mem_singleton.1 q]
        decide
    · exact Js.itoa_ascii _ c q
theorem Js.kind_le (b : Nat) : Re.kind b ≤ 4 := by
  unfold Re.kind
  repeat' split
  all_goals omega
theorem Js.whole_range (b : Nat) : -9007199254740991 ≤ Re.whole b ∧ Re.whole b ≤ 9007199254740991 := by
  have := Re.abs_lt b
  unfold Re.whole Re.sgn
  repeat' split
  all_goals omega
theorem Js.zero_bits (b : Nat) (hb : b < 18446744073709551616) (h : Re.kind b = 2) : b = 0 ∨ b = 9223372036854775808 := by
  unfold Re.kind at h
  split at h
  · split at h <;> omega
  · rename_i h1
    split at h
    · rename_i h2
      unfold Re.mag at h2
      split at h2
      · rename_i h3
        unfold Re.ef at h3
        unfold Re.fr at h2
        omega
      · omega
    · split at h <;> omega
theorem Js.at_real (val : List UInt8 → Option (Vt × List UInt8)) (b : Nat) (hb : b < 18446744073709551616) {r : List UInt8} (hr : Js.ends r = true) : Js.at val (Js.real b ++ r) = some (Js.realBack b, r) := by
  unfold Js.real Js.realBack
  by_cases h1 : Re.kind b < 2
  · rw [if_pos h1, if_pos h1]
    exact Js.at_null val r
  · rw [if_neg h1, if_neg h1]
    by_cases h4 : Re.kind b = 4
    · rw [if_pos h4, if_pos h4, Js.at_quoted, Js.ascii_norm (Js.real_ascii b)]
    · rw [if_neg h4, if_neg h4]
      have hk : Re.kind b = 2 ∨ Re.kind b = 3 := by have := Js.kind_le b; omega
      rcases hk with hk | hk
      · rcases Js.zero_bits b hb hk with rfl | rfl
        · rw [if_neg (by decide)]
          have e : Re.text 0 = Lib.itoa 0 := by
            unfold Re.text
            rw [hk]
            show Re.sign 0 ++ [48] = _
            unfold Lib.itoa
            rw [if_neg (by decide), Js.dec_unfold]
            rfl
          have hw : Re.whole 0 = 0 := by decide +kernel
          obtain ⟨c, t, e1, h⟩ := Js.itoa_head 0
          have hn := Js.number_itoa 0 (by decide) (by decide) hr
          rw [e, hw]
          rw [e1] at hn ⊢
          exact (Js.at_number h).trans hn
        · rw [if_pos rfl]
          have e : Re.text 9223372036854775808 = [45, 48] := by
            unfold Re.text
            rw [hk]
            rfl
          rw [e]
          exact (Js.at_number (.inr rfl)).trans (Js.number_zero hr)
      · have hne : ¬ b = 9223372036854775808 := by
          rintro rfl
          exact absurd hk (by decide)
        rw [if_neg hne]
        have e : Re.text b = Lib.itoa (Re.whole b) := by
          unfold Re.text
          rw [hk]
          rfl
        obtain ⟨c, t, e1, h⟩ := Js.itoa_head (Re.whole b)
        have hn := Js.number_itoa (Re.whole b) (Js.whole_range b).1 (Js.whole_range b).2 hr
        rw [e]
        rw [e1] at hn ⊢
        exact (Js.at_number h).trans hn
theorem Js.node_list (it : Nat → Vt) (k : Nat) : Js.node 5 [] (Js.trees it 0 k) = .mk 5 0 0 ⟨#[]⟩ (k + 1) (fun i => if i < k + 1 then Js.back (it i) else .nil) 0 (fun _ => ⟨#[]⟩) := by
  unfold Js.node
  rw [Js.trees_len]
  congr 1
  funext i
  split
  · rename_i h
    rw [Js.trees_get it k 0 i h, Nat.zero_add]
  · exact Js.getD_beyond _ _ _ (by rw [Js.trees_len]; omega)
theorem Js.node_rec (it : Nat → Vt) (ks : Nat → ByteArray) (k : Nat) : Js.node 6 (Js.names ks 0 k) (Js.trees it 0 k) = .mk 6 0 0 ⟨#[]⟩ (k + 1) (fun i => if i < k + 1 then Js.back (it i) else .nil) (k + 1) (fun j => if j < k + 1 then ks j else ⟨#[]⟩) := by
  unfold Js.node
  rw [Js.trees_len, Js.names_len]
  congr 1
  · funext i
    split
    · rename_i h
      rw [Js.trees_get it k 0 i h, Nat.zero_add]
    · exact Js.getD_beyond _ _ _ (by rw [Js.trees_len]; omega)
  · funext j
    split
    · rename_i h
      rw [Js.names_get ks k 0 j h, Nat.zero_add]
    · exact Js.getD_beyond _ _ _ (by rw [Js.names_len]; omega)
theorem Js.formed_leaf {k x : Int} {b : Nat} {s : ByteArray} {n m : Nat} {ks : Nat → ByteArray} (h : Vt.formed k x b s n m ks = true) : (k = 0 ∧ x = 0) ∨ (k = 1 ∧ (x = 0 ∨ x = 1)) ∨ (k = 2 ∧ -9007199254740991 ≤ x ∧ x ≤ 9007199254740991) ∨ k = 3 ∨ k = 4 ∨ (k = 5 ∧ m = 0) ∨ (k = 6 ∧ m = n) := by
  unfold Vt.formed at h
  split at h
  · simp only [Bool.and_eq_true, decide_eq_true_eq] at h
    exact .inl ⟨by assumption, h.1.1.1.1⟩
  · split at h
    · simp only [Bool.and_eq_true, Bool.or_eq_true, decide_eq_true_eq] at h
      exact .inr (.inl ⟨by assumption, h.1.1.1.1⟩)
    · split at h
      · simp only [Bool.and_eq_true, decide_eq_true_eq] at h
        exact .inr (.inr (.inl ⟨by assumption, h.1.1.1.1.1, h.1.1.1.1.2⟩))
      · split at h
        · exact .inr (.inr (.inr (.inl (by assumption))))
        · split at h
          · exact .inr (.inr (.inr (.inr (.inl (by assumption)))))
          · split at h
            · simp only [Bool.and_eq_true, decide_eq_true_eq] at h
              exact .inr (.inr (.inr (.inr (.inr (.inl ⟨by assumption, h.2⟩)))))
            · split at h
              · simp only [Bool.and_eq_true, decide_eq_true_eq] at h
                exact .inr (.inr (.inr (.inr (.inr (.inr ⟨by assumption, h.1.1.1.1.2⟩)))))
              · cases h
theorem Js.value_put : ∀ (d : Nat) (t : Vt) (r : List UInt8), Js.Ok d t → Js.Keys d t → Js.ends r = true → Js.value d (Js.put t ++ r) = some (Js.back t, r)
  | 0, _, _, h, _, _ => h.elim
  | d + 1, .nil, _, h, _, _ => h.elim
  | d + 1, .mk k x b s n it m ks, r, h, hk, hr => by
    obtain ⟨c, l, e, hc⟩ := Js.put_head h
    have hw : Js.ws (Js.put (.mk k x b s n it m ks) ++ r) = Js.put (.mk k x b s n it m ks) ++ r := by
      rw [e]
      exact Js.ws_stay (Js.begins_facts c hc).1
    rw [Js.value, hw]
    clear hw e hc
    obtain ⟨hf, hb, hi⟩ := h
    obtain ⟨hkm, hki⟩ := hk
    have hv : ∀ i r, i < n → Js.ends r = true → Js.value d (Js.put (it i) ++ r) = some (Js.back (it i), r) := fun i r hin hr => Js.value_put d (it i) r (hi i hin) (hki i hin) hr
    rw [Js.put, Js.back]
    rcases Js.formed_leaf hf with ⟨rfl, rfl⟩ | ⟨rfl, hx⟩ | ⟨rfl, hx⟩ | rfl | rfl | ⟨rfl, rfl⟩ | ⟨rfl, rfl⟩
    · exact Js.at_null _ r
    · rcases hx with rfl | rfl
      · exact Js.at_false _ r
      · exact Js.at_true _ r
    · obtain ⟨c, t, e1, h⟩ := Js.itoa_head x
      have hn := Js.number_itoa x hx.1 hx.2 hr
      show Js.at _ (Lib.itoa x ++ r) = some (Js.leaf 2 x 0 ⟨#[]⟩, r)
      rw [e1] at hn ⊢
      exact (Js.at_number h).trans hn
    · exact Js.at_real _ b hb hr
    · exact Js.at_quoted _ _ r
    · show Js.at _ (91 :: (Js.cat (fun i => Js.comma i ++ Js.put (it i)) n ++ [93]) ++ r) = some (.mk 5 0 0 ⟨#[]⟩ n (fun i => if i < n then Js.back (it i) else .nil) 0 (fun j => if j < 0 then ks j else ⟨#[]⟩), r)
      have e : 91 :: (Js.cat (fun i => Js.comma i ++ Js.put (it i)) n ++ [93]) ++ r = 91 :: (Js.cat (fun i => Js.comma i ++ Js.put (it i)) n ++ 93 :: r) := by simp
      rw [e, Js.at_list]
      cases n with
      | zero =>
        have hl : Js.list (Js.value d) false 93 (93 :: r) = some (([], []), r) := by
          unfold Js.list
          rw [Js.is_yes rfl]
        show (Js.list (Js.value d) false 93 (93 :: r)).map _ = _
        rw [hl]
        rfl
      | succ k =>
        rw [Js.cat_join]
        obtain ⟨c, l, e0, hc⟩ := Js.put_head (hi 0 (by omega))
        have hne := (Js.begins_facts c hc)
        obtain ⟨l', el⟩ := Js.join_head (g := fun i => Js.put (it i)) (i := 0) (k := k) e0
        have hno : Js.is 93 (Js.join (fun i => Js.put (it i)) 0 k ++ 93 :: r) = none := by
          rw [el]
          exact Js.is_no hne.1 hne.2.1
        have hlen : k < (Js.join (fun i => Js.put (it i)) 0 k ++ 93 :: r).length := by
          have : ∀ k i, k ≤ (Js.join (fun i => Js.put (it i)) i k).length := by
            intro k
            induction k with
            | zero => intro i; exact Nat.zero_le _
            | succ k ih =>
              intro i
              rw [Js.join, List.length_append, List.length_cons]
              have := ih (i + 1)
              omega
          have := this k 0
          rw [List.length_append, List.length_cons]
          omega
        unfold Js.list
        rw [hno]
        show (Js.itemsF (Js.value d) false 93 _ (Js.join (fun i => Js.put (it i)) 0 k ++ 93 :: r)).map _ = _
        rw [Js.items_list hv r k 0 _ (by omega) hlen]
        show some (Js.node 5 [] (Js.trees it 0 k), r) = _
        rw [Js.node_list]
        rfl
    · show Js.at _ (123 :: (Js.cat (fun i => Js.comma i ++ (Js.quoted (ks i).data.toList ++ 58 :: Js.put (it i))) m ++ [125]) ++ r) = some (.mk 6 0 0 ⟨#[]⟩ m (fun i => if i < m then Js.back (it i) else .nil) m (fun j => if j < m then ks j else ⟨#[]⟩), r)
      have e : 123 :: (Js.cat (fun i => Js.comma i ++ (Js.quoted (ks i).data.toList ++ 58 :: Js.put (it i))) m ++ [125]) ++ r = 123 :: (Js.cat (fun i => Js.comma i ++ (Js.quoted (ks i).data.toList ++ 58 :: Js.put (it i))) m ++ 125 :: r) := by simp
      rw [e, Js.at_rec]
      cases m with
      | zero =>
        have hl : Js.list (Js.value d) true 125 (125 :: r) = some (([], []), r) := by
          unfold Js.list
          rw [Js.is_yes rfl]
        show (Js.list (Js.value d) true 125 (125 :: r)).map _ = _
        rw [hl]
        rfl
      | succ k =>
        rw [Js.cat_join]
        obtain ⟨l', el⟩ := Js.join_head (g := fun i => Js.quoted (ks i).data.toList ++ 58 :: Js.put (it i)) (i := 0) (k := k) (c := 34) (l := (Js.esc (ks 0).data.toList ++ [34]) ++ 58 :: Js.put (it 0)) rfl
        have hno : Js.is 125 (Js.join (fun i => Js.quoted (ks i).data.toList ++ 58 :: Js.put (it i)) 0 k ++ 125 :: r) = none := by
          rw [el]
          exact Js.is_no rfl (by decide)
        have hlen : k < (Js.join (fun i => Js.quoted (ks i).data.toList ++ 58 :: Js.put (it i)) 0 k ++ 125 :: r).length := by
          have : ∀ k i, k ≤ (Js.join (fun i => Js.quoted (ks i).data.toList ++ 58 :: Js.put (it i)) i k).length := by
            intro k
            induction k with
            | zero => intro i; exact Nat.zero_le _
            | succ k ih =>
              intro i
              rw [Js.join, List.length_append, List.length_cons]
              have := ih (i + 1)
              omega
          have := this k 0
          rw [List.length_append, List.length_cons]
          omega
        unfold Js.list
        rw [hno]
        show (Js.itemsF (Js.value d) true 125 _ (Js.join (fun i => Js.quoted (ks i).data.toList ++ 58 :: Js.put (it i)) 0 k ++ 125 :: r)).map _ = _
        rw [Js.items_rec hv hkm r k 0 _ (by omega) hlen]
        show some (Js.node 6 (Js.names ks 0 k) (Js.trees it 0 k), r) = _
        rw [Js.node_rec]
end Go.Proofs.YtiajclmhimkpnaaDoor
/-
  PLAIN: what is read again may be; Get of what is put.
-/
namespace Go.Proofs.YtiajclmhimkpnaaDoor
def Js.Bits : Vt → Prop
  | .nil => True
  | .mk _ _ b _ n it _ _ => b < 18446744073709551616 ∧ ∀ i, i < n → Js.Bits (it i)
theorem Js.run_true {f : Nat → Int → Bool × Int} : ∀ {n : Nat} {L : Int}, (Vt.run f n L).1 = true → ∀ i, i < n → ∃ L', (f i L').1 = true
  | 0, _, _, i, hi => by omega
  | n + 1, L, h, i, hi => by
    rw [Vt.run] at h
    split at h
    · rename_i h0
      by_cases e : i = n
      · subst e
        exact ⟨_, h⟩
      · exact Js.run_true h0 i (by omega)
    · rename_i h0
      exact absurd h h0
theorem Js.run_congr {f g : Nat → Int → Bool × Int} : ∀ {n : Nat} {L : Int}, (Vt.run f n L).1 = true → (∀ i L, i < n → (f i L).1 = true → g i L = f i L) → Vt.run g n L = Vt.run f n L
  | 0, _, _, _ => rfl
  | n + 1, L, h, hg => by
    rw [Vt.run] at h
    split at h
    · rename_i h0
      have e := Js.run_congr h0 fun i L hi => hg i L (by omega)
      rw [Vt.run, Vt.run, e, if_pos h0, if_pos h0]
      exact hg n _ (by omega) h
    · rename_i h0
      exact absurd h h0
theorem Js.stand_parts {k x : Int} {b : Nat} {s : ByteArray} {n : Nat} {it : Nat → Vt} {m : Nat} {ks : Nat → ByteArray} {deep L : Int} (h : ((Vt.mk k x b s n it m ks).stand deep L).1 = true) : ¬ (L - 1 < 0 ∨ 8 < deep) ∧ Vt.formed k x b s n m ks = true ∧ (Vt.run (fun i L => (it i).stand (deep + 1) L) n (L - 1)).1 = true ∧ (Vt.mk k x b s n it m ks).stand deep L = Vt.run (fun i L => (it i).stand (deep + 1) L) n (L - 1) := by
  rw [Vt.stand] at h ⊢
  split at h
  · cases h
  · rename_i hn
    refine ⟨fun q => hn (q.elim .inl fun q => .inr (.inl q)), ?_, h, if_neg hn⟩
    cases hf : Vt.formed k x b s n m ks
    · exact absurd (.inr (.inr hf)) hn
    · rfl
theorem Js.ok_of_stand : ∀ (d : Nat) (t : Vt) (L : Int), (t.stand (9 - (d : Int)) L).1 = true → Js.Bits t → Js.Ok d t
  | d, .nil, L, h, _ => by cases h
  | 0, .mk k x b s n it m ks, L, h, _ => by
    have := (Js.stand_parts h).1
    exact absurd (.inr (by omega)) this
  | d + 1, .mk k x b s n it m ks, L, h, hb => by
    obtain ⟨_, hf, hr, _⟩ := Js.stand_parts h
    refine ⟨hf, hb.1, fun i hi => ?_⟩
    obtain ⟨L', hL⟩ := Js.run_true hr i hi
    refine Js.ok_of_stand d (it i) L' ?_ (hb.2 i hi)
    rw [show (9 : Int) - (d : Int) = 9 - ((d + 1 : Nat) : Int) + 1 by omega]
    exact hL
theorem Js.ok_of_may {t : Vt} (h : t.may = true) (hb : Js.Bits t) : Js.Ok 8 t := Js.ok_of_stand 8 t 1024 h hb
theorem Js.keysOk_congr {ks ks' : Nat → ByteArray} : ∀ {m : Nat}, (∀ j, j < m → ks j = ks' j) → Vt.keysOk ks m = Vt.keysOk ks' m
  | 0, _ => rfl
  | m + 1, h => by
    rw [Vt.keysOk, Vt.keysOk, Js.keysOk_congr fun j hj => h j (by omega)]
    congr 1
    unfold Vt.key
    rw [h m (by omega)]
    cases m with
    | zero => rfl
    | succ m => rw [Vt.prev, Vt.prev, h m (by omega)]
theorem Js.byte_pos (c : UInt8) : 1 ≤ (Js.byte c).length := (Js.byte_len c).1
theorem Js.escK_long : ∀ (k : Nat) (l : List UInt8), l.length - k ≤ (Js.escK k l).length
  | _, [] => by simp
  | k + 1, c :: r => by
    rw [Js.escK, List.length_cons]
    have := Js.escK_long k r
    omega
  | 0, c :: r => by
    rw [Js.escK]
    split
    · have := Js.escK_long 2 r
      simp only [List.length_append, List.length_cons, List.length_nil]
      omega
    · have h1 := Js.escK_long 0 r
      have h2 := Js.byte_pos c
      simp only [List.length_append, List.length_cons]
      omega
theorem Js.esc_long (l : List UInt8) : (Pl.normL l).length ≤ (Js.esc l).length := Js.escK_long 0 (Pl.normL l)
theorem Js.quoted_long (l : List UInt8) : (Pl.normL l).length ≤ (Js.quoted l).length := by
  have := Js.esc_long l
  unfold Js.quoted
  simp only [List.length_cons, List.length_append]
  omega
theorem Js.cat_part (f : Nat → List UInt8) : ∀ {n i : Nat}, i < n → (f i).length ≤ (Js.cat f n).length
  | 0, _, h => by omega
  | n + 1, i, h => by
    rw [Js.cat, List.length_append]
    by_cases e : i = n
    · subst e
      omega
    · have := Js.cat_part f (n := n) (i := i) (by omega)
      omega
theorem Js.put_part {k x : Int} {b : Nat} {s : ByteArray} {n : Nat} {it : Nat → Vt} {m : Nat} {ks : Nat → ByteArray} (hk : k = 5 ∨ k = 6) {i : Nat} (hi : i < n) : (Js.put (it i)).length ≤ (Js.put (.mk k x b s n it m ks)).length := by
  rw [Js.put]
  rcases hk with rfl | rfl
  · have := Js.cat_part (fun i => Js.comma i ++ Js.put (it i)) hi
    rw [List.length_append] at this
    show _ ≤ (91 :: (Js.cat (fun i => Js.comma i ++ Js.put (it i)) n ++ [93])).length
    rw [List.length_cons, List.length_append]
    omega
  · have := Js.cat_part (fun i => Js.comma i ++ (Js.quoted (ks i).data.toList ++ 58 :: Js.put (it i))) hi
    rw [List.length_append, List.length_append, List.length_cons] at this
    show _ ≤ (123 :: (Js.cat (fun i => Js.comma i ++ (Js.quoted (ks i).data.toList ++ 58 :: Js.put (it i))) n ++ [125])).length
    rw [List.length_cons, List.length_append]
    omega
theorem Js.stand_leaf {k x : Int} {b : Nat} {s : ByteArray} {deep L : Int} (h : ¬ (L - 1 < 0 ∨ 8 < deep)) (hf : Vt.formed k x b s 0 0 (fun _ => ⟨#[]⟩) = true) : (Js.leaf k x b s).stand deep L = (true, L - 1) := by
  unfold Js.leaf
  rw [Vt.stand, if_neg]
  · rfl
  · rintro (q | q | q)
    · exact h (.inl q)
    · exact h (.inr q)
    · rw [hf] at q
      cases q
theorem Js.size_arr (l : List UInt8) : (⟨l.toArray⟩ : ByteArray).size = l.length := by
  show l.toArray.size = _
  simp
theorem Js.formed4 {s : ByteArray} (h : s.size ≤ 65536) : Vt.formed 4 0 0 s 0 0 (fun _ => ⟨#[]⟩) = true := by
  simp [Vt.formed, h]
theorem Js.formed2 {x : Int} (h1 : -9007199254740991 ≤ x) (h2 : x ≤ 9007199254740991) : Vt.formed 2 x 0 ⟨#[]⟩ 0 0 (fun _ => ⟨#[]⟩) = true := by
  have e : (⟨#[]⟩ : ByteArray).toList = [] := ByteArray.toList_eq _
  simp [Vt.formed, h1, h2, e]
theorem Js.formed013 {k x : Int} {b : Nat} (h : (k = 0 ∧ x = 0 ∧ b = 0) ∨ (k = 1 ∧ (x = 0 ∨ x = 1) ∧ b = 0) ∨ (k = 3 ∧ x = 0)) : Vt.formed k x b ⟨#[]⟩ 0 0 (fun _ => ⟨#[]⟩) = true := by
  have e : (⟨#[]⟩ : ByteArray).toList = [] := ByteArray.toList_eq _
  rcases h with ⟨rfl, rfl, rfl⟩ | ⟨rfl, rfl | rfl, rfl⟩ | ⟨rfl, rfl⟩ <;> simp [Vt.formed, e]
theorem Js.formed_low {k x : Int} {b : Nat} {s : ByteArray} {n m : Nat} {ks : Nat → ByteArray} (h : Vt.formed k x b s n m ks = true) (hk : k < 5) : n = 0 := by
  unfold Vt.formed at h
  repeat' split at h
  all_goals first
    | omega
    | (simp only [Bool.and_eq_true, decide_eq_true_eq] at h; omega)
    | (cases h; done)
theorem Js.real_stand {b : Nat} (hl : (Js.real b).length ≤ 65536) {deep L : Int} (h : ¬ (L - 1 < 0 ∨ 8 < deep)) : (Js.realBack b).stand deep L = (true, L - 1) := by
  unfold Js.real at hl
  unfold Js.realBack
  split
  · exact Js.stand_leaf h (Js.formed013 (by simp))
  · rename_i h1
    rw [if_neg h1] at hl
    split
    · rename_i h4
      rw [if_pos h4] at hl
      refine Js.stand_leaf h (Js.formed4 ?_)
      have := Js.quoted_long (Re.text b)
      rw [Js.ascii_norm (Js.real_ascii b)] at this
      rw [Js.size_arr]
      omega
    · split
      · rename_i hb
        rw [hb]
        exact Js.stand_leaf h (Js.formed013 (by simp))
      · exact Js.stand_leaf h (Js.formed2 (Js.whole_range b).1 (Js.whole_range b).2)
theorem Js.stand_back : ∀ (t : Vt) (deep L : Int), (t.stand deep L).1 = true → (Js.put t).length ≤ 65536 → (Js.back t).stand deep L = t.stand deep L := by
  intro t
  induction t with
  | nil => intro deep L h _; cases h
  | mk k x b s n it m ks ih =>
    intro deep L h hl
    obtain ⟨h1, hf, hr, he⟩ := Js.stand_parts h
    rw [he]
    have hn : k < 5 → Vt.run (fun i L => (it i).stand (deep + 1) L) n (L - 1) = (true, L - 1) := fun hk => by
      rw [Js.formed_low hf hk]
      rfl
    rw [Js.back]
    rcases Js.formed_leaf hf with ⟨rfl, rfl⟩ | ⟨rfl, hx⟩ | ⟨rfl, hx⟩ | rfl | rfl | ⟨rfl, rfl⟩ | ⟨rfl, rfl⟩
    · rw [hn (by decide)]
      exact Js.stand_leaf h1 (Js.formed013 (by simp))
    · rw [hn (by decide)]
      rcases hx with rfl | rfl
      · exact Js.stand_leaf h1 (Js.formed013 (by simp))
      · exact Js.stand_leaf h1 (Js.formed013 (by simp))
    · rw [hn (by decide)]
      exact Js.stand_leaf h1 (Js.formed2 hx.1 hx.2)
    · rw [hn (by decide)]
      exact Js.real_stand hl h1
    · rw [hn (by decide)]
      refine Js.stand_leaf h1 (Js.formed4 ?_)
      have hl : (Js.quoted s.data.toList).length ≤ 65536 := hl
      have := Js.quoted_long s.data.toList
      rw [Js.size_arr]
      omega
    · have hrun := Js.run_congr (g := fun i L => (if i < n then Js.back (it i) else .nil : Vt).stand (deep + 1) L) hr fun i L hi hs => by
        rw [if_pos hi]
        exact ih i (deep + 1) L hs (Nat.le_trans (Js.put_part (.inl rfl) hi) hl)
      show (Vt.mk 5 0 0 ⟨#[]⟩ n (fun i => if i < n then Js.back (it i) else .nil) 0 _).stand deep L = _
      rw [Vt.stand, if_neg]
      · exact hrun
      · rintro (q | q | q)
        · exact h1 (.inl q)
        · exact h1 (.inr q)
        · have e : (⟨#[]⟩ : ByteArray).toList = [] := ByteArray.toList_eq _
          have hn64 : n ≤ 64 := by
            simp [Vt.formed] at hf
            exact hf.1.1.1
          simp [Vt.formed, hn64, e] at q
    · have hrun := Js.run_congr (g := fun i L => (if i < m then Js.back (it i) else .nil : Vt).stand (deep + 1) L) hr fun i L hi hs => by
        rw [if_pos hi]
        exact ih i (deep + 1) L hs (Nat.le_trans (Js.put_part (.inr rfl) hi) hl)
      show (Vt.mk 6 0 0 ⟨#[]⟩ m (fun i => if i < m then Js.back (it i) else .nil) m (fun j => if j < m then ks j else ⟨#[]⟩)).stand deep L = _
      rw [Vt.stand, if_neg]
      · exact hrun
      · rintro (q | q | q)
        · exact h1 (.inl q)
        · exact h1 (.inr q)
        · have e : (⟨#[]⟩ : ByteArray).toList = [] := ByteArray.toList_eq _
          have hkc := Js.keysOk_congr (ks := fun j => if j < m then ks j else ⟨#[]⟩) (ks' := ks) (m := m) fun j hj => if_pos hj
          have hn64 : m ≤ 64 ∧ Vt.keysOk ks m = true := by
            simp [Vt.formed] at hf
            exact ⟨hf.1.1.1.1, hf.1.1.1.2⟩
          simp [Vt.formed, hn64.1, e, hkc, hn64.2] at q
theorem Js.may_back {t : Vt} (h : t.may = true) (hl : (Js.put t).length ≤ 65536) : (Js.back t).may = true := by
  unfold Vt.may
  rw [Js.stand_back t 1 1024 h hl]
  exact h
theorem Js.get_put {t : Vt} (h : t.may = true) (hb : Js.Bits t) (hk : Js.Keys 8 t) (hl : (Js.put t).length ≤ 65536) : Js.get (Js.put t) = some (Js.back t) := by
  have hv := Js.value_put 8 t [] (Js.ok_of_may h hb) hk rfl
  rw [List.append_nil] at hv
  unfold Js.get
  rw [if_neg (by omega), hv]
  show (if Js.ws [] = [] ∧ (Js.back t).may = true then some (Js.back t) else none) = _
  rw [if_pos ⟨rfl, Js.may_back h hl⟩]
end Go.Proofs.YtiajclmhimkpnaaDoor

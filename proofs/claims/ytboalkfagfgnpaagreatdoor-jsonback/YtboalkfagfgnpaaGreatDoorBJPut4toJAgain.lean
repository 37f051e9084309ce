/-
  PLAIN: what is read again may be; Get of what is put.
-/
import Derived.Test.YtboalkfagfgnpaaGreatDoorBJPut2toJPut3
namespace Go.Proofs.YtboalkfagfgnpaaGreatDoor
def Js.Bits : Vt → Prop
  | .nil => True
  | .mk _ _ b _ n it _ _ => b < 18446744073709551616 ∧ ∀ i, i < n → Js.Bits (it i)
theorem Js.run_true {f : Nat → Int → Bool × Int} : ∀ {n : Nat} {L : Int}, (Vt.run f n L).1 = true → ∀ i, i < n → ∃ L', (f i L').1 = true
  | 0, _, _, i, hi => by omega
  | n + 1, L, h, i, hi => by
    rw [Vt.run] at h
    split at h
    · rename_i h0
      by_cases e : i = n
      · subst e
        exact ⟨_, h⟩
      · exact Js.run_true h0 i (by omega)
    · rename_i h0
      exact absurd h h0
theorem Js.run_congr {f g : Nat → Int → Bool × Int} : ∀ {n : Nat} {L : Int}, (Vt.run f n L).1 = true → (∀ i L, i < n → (f i L).1 = true → g i L = f i L) → Vt.run g n L = Vt.run f n L
  | 0, _, _, _ => rfl
  | n + 1, L, h, hg => by
    rw [Vt.run] at h
    split at h
    · rename_i h0
      have e := Js.run_congr h0 fun i L hi => hg i L (by omega)
      rw [Vt.run, Vt.run, e, if_pos h0, if_pos h0]
      exact hg n _ (by omega) h
    · rename_i h0
      exact absurd h h0
theorem Js.stand_parts {k x : Int} {b : Nat} {s : ByteArray} {n : Nat} {it : Nat → Vt} {m : Nat} {ks : Nat → ByteArray} {deep L : Int} (h : ((Vt.mk k x b s n it m ks).stand deep L).1 = true) : ¬ (L - 1 < 0 ∨ 8 < deep) ∧ Vt.formed k x b s n m ks = true ∧ (Vt.run (fun i L => (it i).stand (deep + 1) L) n (L - 1)).1 = true ∧ (Vt.mk k x b s n it m ks).stand deep L = Vt.run (fun i L => (it i).stand (deep + 1) L) n (L - 1) := by
  rw [Vt.stand] at h ⊢
  split at h
  · cases h
  · rename_i hn
    refine ⟨fun q => hn (q.elim .inl fun q => .inr (.inl q)), ?_, h, if_neg hn⟩
    cases hf : Vt.formed k x b s n m ks
    · exact absurd (.inr (.inr hf)) hn
    · rfl
theorem Js.ok_of_stand : ∀ (d : Nat) (t : Vt) (L : Int), (t.stand (9 - (d : Int)) L).1 = true → Js.Bits t → Js.Ok d t
  | d, .nil, L, h, _ => by cases h
  | 0, .mk k x b s n it m ks, L, h, _ => by
    have := (Js.stand_parts h).1
    exact absurd (.inr (by omega)) this
  | d + 1, .mk k x b s n it m ks, L, h, hb => by
    obtain ⟨_, hf, hr, _⟩ := Js.stand_parts h
    refine ⟨hf, hb.1, fun i hi => ?_⟩
    obtain ⟨L', hL⟩ := Js.run_true hr i hi
    refine Js.ok_of_stand d (it i) L' ?_ (hb.2 i hi)
    rw [show (9 : Int) - (d : Int) = 9 - ((d + 1 : Nat) : Int) + 1 by omega]
    exact hL
theorem Js.ok_of_may {t : Vt} (h : t.may = true) (hb : Js.Bits t) : Js.Ok 8 t := Js.ok_of_stand 8 t 1024 h hb
theorem Js.keysOk_congr {ks ks' : Nat → ByteArray} : ∀ {m : Nat}, (∀ j, j < m → ks j = ks' j) → Vt.keysOk ks m = Vt.keysOk ks' m
  | 0, _ => rfl
  | m + 1, h => by
    rw [Vt.keysOk, Vt.keysOk, Js.keysOk_congr fun j hj => h j (by omega)]
    congr 1
    unfold Vt.key
    rw [h m (by omega)]
    cases m with
    | zero => rfl
    | succ m => rw [Vt.prev, Vt.prev, h m (by omega)]
theorem Js.byte_pos (c : UInt8) : 1 ≤ (Js.byte c).length := (Js.byte_len c).1
theorem Js.escK_long : ∀ (k : Nat) (l : List UInt8), l.length - k ≤ (Js.escK k l).length
  | _, [] => by simp
  | k + 1, c :: r => by
    rw [Js.escK, List.length_cons]
    have := Js.escK_long k r
    omega
  | 0, c :: r => by
    rw [Js.escK]
    split
    · have := Js.escK_long 2 r
      simp only [List.length_append, List.length_cons, List.length_nil]
      omega
    · have h1 := Js.escK_long 0 r
      have h2 := Js.byte_pos c
      simp only [List.length_append, List.length_cons]
      omega
theorem Js.esc_long (l : List UInt8) : (Pl.normL l).length ≤ (Js.esc l).length := Js.escK_long 0 (Pl.normL l)
theorem Js.quoted_long (l : List UInt8) : (Pl.normL l).length ≤ (Js.quoted l).length := by
  have := Js.esc_long l
  unfold Js.quoted
  simp only [List.length_cons, List.length_append]
  omega
theorem Js.cat_part (f : Nat → List UInt8) : ∀ {n i : Nat}, i < n → (f i).length ≤ (Js.cat f n).length
  | 0, _, h => by omega
  | n + 1, i, h => by
    rw [Js.cat, List.length_append]
    by_cases e : i = n
    · subst e
      omega
    · have := Js.cat_part f (n := n) (i := i) (by omega)
      omega
theorem Js.put_part {k x : Int} {b : Nat} {s : ByteArray} {n : Nat} {it : Nat → Vt} {m : Nat} {ks : Nat → ByteArray} (hk : k = 5 ∨ k = 6) {i : Nat} (hi : i < n) : (Js.put (it i)).length ≤ (Js.put (.mk k x b s n it m ks)).length := by
  rw [Js.put]
  rcases hk with rfl | rfl
  · have := Js.cat_part (fun i => Js.comma i ++ Js.put (it i)) hi
    rw [List.length_append] at this
    show _ ≤ (91 :: (Js.cat (fun i => Js.comma i ++ Js.put (it i)) n ++ [93])).length
    rw [List.length_cons, List.length_append]
    omega
  · have := Js.cat_part (fun i => Js.comma i ++ (Js.quoted (ks i).data.toList ++ 58 :: Js.put (it i))) hi
    rw [List.length_append, List.length_append, List.length_cons] at this
    show _ ≤ (123 :: (Js.cat (fun i => Js.comma i ++ (Js.quoted (ks i).data.toList ++ 58 :: Js.put (it i))) n ++ [125])).length
    rw [List.length_cons, List.length_append]
    omega
theorem Js.stand_leaf {k x : Int} {b : Nat} {s : ByteArray} {deep L : Int} (h : ¬ (L - 1 < 0 ∨ 8 < deep)) (hf : Vt.formed k x b s 0 0 (fun _ => ⟨#[]⟩) = true) : (Js.leaf k x b s).stand deep L = (true, L - 1) := by
  unfold Js.leaf
  rw [Vt.stand, if_neg]
  · rfl
  · rintro (q | q | q)
    · exact h (.inl q)
    · exact h (.inr q)
    · rw [hf] at q
      cases q
theorem Js.size_arr (l : List UInt8) : (⟨l.toArray⟩ : ByteArray).size = l.length := by
  show l.toArray.size = _
  simp
theorem Js.formed4 {s : ByteArray} (h : s.size ≤ 65536) : Vt.formed 4 0 0 s 0 0 (fun _ => ⟨#[]⟩) = true := by
  simp [Vt.formed, h]
theorem Js.formed2 {x : Int} (h1 : -9007199254740991 ≤ x) (h2 : x ≤ 9007199254740991) : Vt.formed 2 x 0 ⟨#[]⟩ 0 0 (fun _ => ⟨#[]⟩) = true := by
  have e : (⟨#[]⟩ : ByteArray).toList = [] := ByteArray.toList_eq _
  simp [Vt.formed, h1, h2, e]
theorem Js.formed013 {k x : Int} {b : Nat} (h : (k = 0 ∧ x = 0 ∧ b = 0) ∨ (k = 1 ∧ (x = 0 ∨ x = 1) ∧ b = 0) ∨ (k = 3 ∧ x = 0)) : Vt.formed k x b ⟨#[]⟩ 0 0 (fun _ => ⟨#[]⟩) = true := by
  have e : (⟨#[]⟩ : ByteArray).toList = [] := ByteArray.toList_eq _
  rcases h with ⟨rfl, rfl, rfl⟩ | ⟨rfl, rfl | rfl, rfl⟩ | ⟨rfl, rfl⟩ <;> simp [Vt.formed, e]
theorem Js.formed_low {k x : Int} {b : Nat} {s : ByteArray} {n m : Nat} {ks : Nat → ByteArray} (h : Vt.formed k x b s n m ks = true) (hk : k < 5) : n = 0 := by
  unfold Vt.formed at h
  repeat' split at h
  all_goals first
    | omega
    | (simp only [Bool.and_eq_true, decide_eq_true_eq] at h; omega)
    | (cases h; done)
theorem Js.real_stand {b : Nat} (hl : (Js.real b).length ≤ 65536) {deep L : Int} (h : ¬ (L - 1 < 0 ∨ 8 < deep)) : (Js.realBack b).stand deep L = (true, L - 1) := by
  unfold Js.real at hl
  unfold Js.realBack
  split
  · exact Js.stand_leaf h (Js.formed013 (by simp))
  · rename_i h1
    rw [if_neg h1] at hl
    split
    · rename_i h4
      rw [if_pos h4] at hl
      refine Js.stand_leaf h (Js.formed4 ?_)
      have := Js.quoted_long (Re.text b)
      rw [Js.ascii_norm (Js.real_ascii b)] at this
      rw [Js.size_arr]
      omega
    · split
      · rename_i hb
        rw [hb]
        exact Js.stand_leaf h (Js.formed013 (by simp))
      · exact Js.stand_leaf h (Js.formed2 (Js.whole_range b).1 (Js.whole_range b).2)
theorem Js.stand_back : ∀ (t : Vt) (deep L : Int), (t.stand deep L).1 = true → (Js.put t).length ≤ 65536 → (Js.back t).stand deep L = t.stand deep L := by
  intro t
  induction t with
  | nil => intro deep L h _; cases h
  | mk k x b s n it m ks ih =>
    intro deep L h hl
    obtain ⟨h1, hf, hr, he⟩ := Js.stand_parts h
    rw [he]
    have hn : k < 5 → Vt.run (fun i L => (it i).stand (deep + 1) L) n (L - 1) = (true, L - 1) := fun hk => by
      rw [Js.formed_low hf hk]
      rfl
    rw [Js.back]
    rcases Js.formed_leaf hf with ⟨rfl, rfl⟩ | ⟨rfl, hx⟩ | ⟨rfl, hx⟩ | rfl | rfl | ⟨rfl, rfl⟩ | ⟨rfl, rfl⟩
    · rw [hn (by decide)]
      exact Js.stand_leaf h1 (Js.formed013 (by simp))
    · rw [hn (by decide)]
      rcases hx with rfl | rfl
      · exact Js.stand_leaf h1 (Js.formed013 (by simp))
      · exact Js.stand_leaf h1 (Js.formed013 (by simp))
    · rw [hn (by decide)]
      exact Js.stand_leaf h1 (Js.formed2 hx.1 hx.2)
    · rw [hn (by decide)]
      exact Js.real_stand hl h1
    · rw [hn (by decide)]
      refine Js.stand_leaf h1 (Js.formed4 ?_)
      have hl : (Js.quoted s.data.toList).length ≤ 65536 := hl
      have := Js.quoted_long s.data.toList
      rw [Js.size_arr]
      omega
    · have hrun := Js.run_congr (g := fun i L => (if i < n then Js.back (it i) else .nil : Vt).stand (deep + 1) L) hr fun i L hi hs => by
        rw [if_pos hi]
        exact ih i (deep + 1) L hs (Nat.le_trans (Js.put_part (.inl rfl) hi) hl)
      show (Vt.mk 5 0 0 ⟨#[]⟩ n (fun i => if i < n then Js.back (it i) else .nil) 0 _).stand deep L = _
      rw [Vt.stand, if_neg]
      · exact hrun
      · rintro (q | q | q)
        · exact h1 (.inl q)
        · exact h1 (.inr q)
        · have e : (⟨#[]⟩ : ByteArray).toList = [] := ByteArray.toList_eq _
          have hn64 : n ≤ 64 := by
            simp [Vt.formed] at hf
            exact hf.1.1.1
          simp [Vt.formed, hn64, e] at q
    · have hrun := Js.run_congr (g := fun i L => (if i < m then Js.back (it i) else .nil : Vt).stand (deep + 1) L) hr fun i L hi hs => by
        rw [if_pos hi]
        exact ih i (deep + 1) L hs (Nat.le_trans (Js.put_part (.inr rfl) hi) hl)
      show (Vt.mk 6 0 0 ⟨#[]⟩ m (fun i => if i < m then Js.back (it i) else .nil) m (fun j => if j < m then ks j else ⟨#[]⟩)).stand deep L = _
      rw [Vt.stand, if_neg]
      · exact hrun
      · rintro (q | q | q)
        · exact h1 (.inl q)
        · exact h1 (.inr q)
        · have e : (⟨#[]⟩ : ByteArray).toList = [] := ByteArray.toList_eq _
          have hkc := Js.keysOk_congr (ks := fun j => if j < m then ks j else ⟨#[]⟩) (ks' := ks) (m := m) fun j hj => if_pos hj
          have hn64 : m ≤ 64 ∧ Vt.keysOk ks m = true := by
            simp [Vt.formed] at hf
            exact ⟨hf.1.1.1.1, hf.1.1.1.2⟩
          simp [Vt.formed, hn64.1, e, hkc, hn64.2] at q
theorem Js.may_back {t : Vt} (h : t.may = true) (hl : (Js.put t).length ≤ 65536) : (Js.back t).may = true := by
  unfold Vt.may
  rw [Js.stand_back t 1 1024 h hl]
  exact h
theorem Js.get_put {t : Vt} (h : t.may = true) (hb : Js.Bits t) (hk : Js.Keys 8 t) (hl : (Js.put t).length ≤ 65536) : Js.get (Js.put t) = some (Js.back t) := by
  have hv := Js.value_put 8 t [] (Js.ok_of_may h hb) hk rfl
  rw [List.append_nil] at hv
  unfold Js.get
  rw [if_neg (by omega), hv]
  show (if Js.ws [] = [] ∧ (Js.back t).may = true then some (Js.back t) else none) = _
  rw [if_pos ⟨rfl, Js.may_back h hl⟩]
end Go.Proofs.YtboalkfagfgnpaaGreatDoor
/-
  PLAIN: what is read is put and read the same, but for signs of number 0.
-/
namespace Go.Proofs.YtboalkfagfgnpaaGreatDoor
def Js.zeros : List UInt8 → Bool
  | [] => false
  | c :: r => Pl.pre [92, 117, 48, 48, 48, 48] (c :: r) || Js.zeros r
theorem Js.zeros_suffix {r : List UInt8} : ∀ {l : List UInt8}, r <:+ l → Js.zeros l = false → Js.zeros r = false
  | [], h, _ => by
    rw [List.suffix_nil.1 h]
    rfl
  | c :: l, h, hz => by
    rw [Js.zeros, Bool.or_eq_false_iff] at hz
    rcases List.suffix_cons_iff.1 h with rfl | h
    · rw [Js.zeros, hz.1, hz.2]
      rfl
    · exact Js.zeros_suffix h hz.2
theorem Js.ws_suffix (l : List UInt8) : Js.ws l <:+ l := List.dropWhile_suffix _
theorem Js.is_suffix {c : UInt8} {l r : List UInt8} (h : Js.is c l = some r) : r <:+ l := by
  have hw := Js.ws_suffix l
  unfold Js.is at h
  split at h
  · cases h
  · rename_i d r' hr
    split at h
    · injection h with h
      subst h
      rw [hr] at hw
      exact (List.suffix_cons d _).trans hw
    · cases h
theorem Js.byte_of (n : Nat) (h : n < 256) : (UInt8.ofNat n).toNat = n := by
  rw [UInt8.toNat_ofNat']
  omega
theorem Js.sgn_rune {x : Nat} (h0 : x ≠ 0) (h1 : ¬ (55296 ≤ x ∧ x ≤ 57343)) (h2 : x ≤ 1114111) (q : List UInt8) : Pl.sgn (Pl.runeL x ++ q) = (Pl.runeL x).length ∧ (Pl.runeL x).length ≠ 0 := by
  unfold Pl.runeL
  rw [if_neg (by omega)]
  by_cases a1 : x < 128
  · rw [if_pos a1]
    refine ⟨?_, by simp⟩
    exact Pl.sgn_one _ _ (fun e => by have := congrArg UInt8.toNat e; rw [Js.byte_of x (by omega)] at this; exact h0 this) (by rw [Js.byte_of x (by omega)]; exact a1)
  · rw [if_neg a1]
    by_cases a2 : x < 2048
    · rw [if_pos a2]
      refine ⟨?_, by simp⟩
      show Pl.sgnN _ (UInt8.ofNat (192 + x / 64)).toNat (UInt8.ofNat (128 + x % 64)).toNat _ _ = 2
      rw [Js.byte_of _ (by omega), Js.byte_of _ (by omega)]
      unfold Pl.sgnN
      rw [if_neg (by omega), if_neg (by omega), if_neg (by omega), if_pos (by omega), if_pos ⟨by simp, by omega⟩]
    · rw [if_neg a2]
      by_cases a3 : x < 65536
      · rw [if_pos a3]
        refine ⟨?_, by simp⟩
        show Pl.sgnN _ (UInt8.ofNat (224 + x / 4096)).toNat (UInt8.ofNat (128 + x / 64 % 64)).toNat (UInt8.ofNat (128 + x % 64)).toNat _ = 3
        rw [Js.byte_of _ (by omega), Js.byte_of _ (by omega), Js.byte_of _ (by omega)]
        unfold Pl.sgnN
        rw [if_neg (by omega), if_neg (by omega), if_neg (by omega), if_neg (by omega), if_pos (by omega), if_pos ⟨by simp, by omega⟩]
      · rw [if_neg a3]
        refine ⟨?_, by simp⟩
        show Pl.sgnN _ (UInt8.ofNat (240 + x / 262144)).toNat (UInt8.ofNat (128 + x / 4096 % 64)).toNat (UInt8.ofNat (128 + x / 64 % 64)).toNat (UInt8.ofNat (128 + x % 64)).toNat = 4
        rw [Js.byte_of _ (by omega), Js.byte_of _ (by omega), Js.byte_of _ (by omega), Js.byte_of _ (by omega)]
        unfold Pl.sgnN
        rw [if_neg (by omega), if_neg (by omega), if_neg (by omega), if_neg (by omega), if_neg (by omega), if_pos (by omega), if_pos ⟨by simp, by omega⟩]
theorem Js.may_rune {x : Nat} (h0 : x ≠ 0) (h1 : ¬ (55296 ≤ x ∧ x ≤ 57343)) (h2 : x ≤ 1114111) (q : List UInt8) : Pl.mayL (Pl.runeL x ++ q) = Pl.mayL q := by
  obtain ⟨e, hne⟩ := Js.sgn_rune h0 h1 h2 q
  rw [Pl.mayL_sign _ (by rw [e]; exact hne), e, List.drop_left]
theorem Js.uni_may {r b r1 : List UInt8} (h : Js.uni r = some (b, r1)) (hz : Pl.pre [48, 48, 48, 48] r = false) (q : List UInt8) : Pl.mayL (b ++ q) = Pl.mayL q := by
  unfold Js.uni at h
  split at h
  · cases h
  · rename_i x r0 h4
    have hx := (Js.four_len h4).2.1
    split at h
    · split at h
      · rename_i _ b0 u0 r2
        split at h
        · split at h
          · cases h
          · rename_i y r3 h5
            split at h
            · simp only [Option.some.injEq, Prod.mk.injEq] at h
              rw [← h.1]
              exact Js.may_rune (by omega) (by omega) (by omega) q
            · cases h
        · cases h
      · cases h
    · split at h
      · cases h
      · simp only [Option.some.injEq, Prod.mk.injEq] at h
        rw [← h.1]
        have hx0 : x ≠ 0 := by
          rintro rfl
          match r, h4, hz with
          | a :: b' :: c :: d :: t, h4, hz =>
            rw [Js.four] at h4
            split at h4
            · rename_i hd
              simp only [Option.some.injEq, Prod.mk.injEq] at h4
              have hdig : ∀ c : UInt8, Pl.dig c = 0 → c = 48 := fun c hc => by
                have : ∀ n : Fin 256, (!decide (Pl.dig (UInt8.ofNat n.val) = 0) || decide (UInt8.ofNat n.val = 48)) = true := by decide +kernel
                have h1 := this ⟨c.toNat, c.toNat_lt⟩
                simp only [UInt8.ofNat_toNat] at h1
                rw [decide_eq_true hc] at h1
                exact of_decide_eq_true h1
              have e1 := hdig a (by omega)
              have e2 := hdig b' (by omega)
              have e3 := hdig c (by omega)
              have e4 := hdig d (by omega)
              rw [e1, e2, e3, e4] at hz
              exact absurd hz (by simp [Pl.pre, List.isPrefixOf])
            · cases h4
        rw [if_neg hx0]
        exact Js.may_rune hx0 (by omega) (by omega) q
theorem Js.escaped_may {r b r1 : List UInt8} (h : Js.escaped r = some (b, r1)) (hz : Pl.pre [117, 48, 48, 48, 48] r = false) (q : List UInt8) : Pl.mayL (b ++ q) = Pl.mayL q := by
  have hone : ∀ c : UInt8, c ≠ 0 → c.toNat < 128 → Pl.mayL ([c] ++ q) = Pl.mayL q := fun c h0 h1 => Pl.may_ascii [c] q fun d hd => by rw [List.mem_singleton.1 hd]; exact ⟨h0, h1⟩
  cases r with
  | nil => cases h
  | cons c r =>
    rw [Js.escaped] at h
    split at h
    · rename_i hc
      simp only [Option.some.injEq, Prod.mk.injEq] at h
      rw [← h.1]
      rcases hc with rfl | rfl | rfl <;> exact hone _ (by decide) (by decide)
    · split at h
      · simp only [Option.some.injEq, Prod.mk.injEq] at h
        rw [← h.1]; exact hone _ (by decide) (by decide)
      · split at h
        · simp only [Option.some.injEq, Prod.mk.injEq] at h
          rw [← h.1]; exact hone _ (by decide) (by decide)
        · split at h
          · simp only [Option.some.injEq, Prod.mk.injEq] at h
            rw [← h.1]; exact hone _ (by decide) (by decide)
          · split at h
            · simp only [Option.some.injEq, Prod.mk.injEq] at h
              rw [← h.1]; exact hone _ (by decide) (by decide)
            · split at h
              · simp only [Option.some.injEq, Prod.mk.injEq] at h
                rw [← h.1]; exact hone _ (by decide) (by decide)
              · split at h
                · rename_i hc
                  subst hc
                  refine Js.uni_may h ?_ q
                  rw [Pl.pre_cons] at hz
                  simpa using hz
                · cases h
theorem Js.textF_may : ∀ (f : Nat) (l b r : List UInt8), Js.textF f l = some (b, r) → Js.zeros l = false → Pl.mayL b = true ∧ r <:+ l
  | 0, _, _, _, h, _ => by cases h
  | f + 1, [], _, _, h, _ => by cases h
  | f + 1, c :: t, b, r, h, hz => by
    rw [Js.textF] at h
    split at h
    · simp only [Option.some.injEq, Prod.mk.injEq] at h
      obtain ⟨rfl, rfl⟩ := h
      exact ⟨rfl, List.suffix_cons _ _⟩
    · split at h
      · rename_i hc
        split at h
        · cases h
        · rename_i b1 r1 he
          obtain ⟨⟨q1, q2⟩, hq, e⟩ := Option.map_eq_some_iff.1 h
          simp only [Prod.mk.injEq] at e
          obtain ⟨rfl, rfl⟩ := e
          obtain ⟨_, _, _, k, hk⟩ := Js.escaped_len he
          have hs1 : r1 <:+ c :: t := by
            rw [hk]
            exact (List.drop_suffix k t).trans (List.suffix_cons _ _)
          obtain ⟨h1, h2⟩ := Js.textF_may f r1 q1 q2 hq (Js.zeros_suffix hs1 hz)
          have hz' : Pl.pre [117, 48, 48, 48, 48] t = false := by
            rw [Js.zeros, Bool.or_eq_false_iff] at hz
            have := hz.1
            rw [hc, Pl.pre_cons] at this
            simpa using this
          exact ⟨by rw [Js.escaped_may he hz']; exact h1, h2.trans hs1⟩
      · split at h
        · cases h
        · rename_i hs
          obtain ⟨⟨q1, q2⟩, hq, e⟩ := Option.map_eq_some_iff.1 h
          simp only [Prod.mk.injEq] at e
          obtain ⟨rfl, rfl⟩ := e
          have hs1 : (c :: t).drop (Pl.sgn (c :: t)) <:+ c :: t := List.drop_suffix _ _
          obtain ⟨h1, h2⟩ := Js.textF_may f _ q1 q2 hq (Js.zeros_suffix hs1 hz)
          exact ⟨by rw [Pl.mayL_take (c :: t) q1 (fun q => hs (.inr q))]; exact h1, h2.trans hs1⟩
theorem Js.text_may {l b r : List UInt8} (h : Js.text l = some (b, r)) (hz : Js.zeros l = false) : Pl.mayL b = true ∧ r <:+ l := Js.textF_may _ _ _ _ h hz
/-- read the same, with keys that are texts -/
def Js.Again (d : Nat) (t : Vt) : Prop := Js.back t = t ∧ Js.Keys d t ∧ Js.Bits t
theorem Js.again_leaf (d : Nat) (k x : Int) (hk : k < 3) : Js.Again d (Js.leaf k x 0 ⟨#[]⟩) := by
  refine ⟨?_, ?_, ?_⟩
  · unfold Js.leaf
    rw [Js.back, if_neg (by omega), if_neg (by omega), if_pos hk]
    rfl
  · cases d with
    | zero => exact trivial
    | succ d => exact ⟨fun j hj => absurd hj (by omega), fun i hi => absurd hi (by omega)⟩
  · exact ⟨by decide, fun i hi => absurd hi (by omega)⟩
theorem Js.again_text (d : Nat) (b : List UInt8) (h : Pl.mayL b = true) : Js.Again d (Js.leaf 4 0 0 ⟨b.toArray⟩) := by
  refine ⟨?_, ?_, ?_⟩
  · unfold Js.leaf
    rw [Js.back, if_neg (by decide), if_pos rfl]
    show Js.leaf 4 0 0 ⟨(Pl.normL b).toArray⟩ = _
    rw [Pl.norm_of_may b h]
    rfl
  · cases d with
    | zero => exact trivial
    | succ d => exact ⟨fun j hj => absurd hj (by omega), fun i hi => absurd hi (by omega)⟩
  · exact ⟨by decide, fun i hi => absurd hi (by omega)⟩
theorem Js.again_zero (d : Nat) : Js.Again d (Js.leaf 3 0 9223372036854775808 ⟨#[]⟩) := by
  refine ⟨?_, ?_, ?_⟩
  · unfold Js.leaf
    rw [Js.back, if_pos rfl]
    unfold Js.realBack
    have hk : Re.kind 9223372036854775808 = 2 := by decide +kernel
    rw [hk, if_neg (by decide), if_neg (by decide), if_pos rfl]
    rfl
  · cases d with
    | zero => exact trivial
    | succ d => exact ⟨fun j hj => absurd hj (by omega), fun i hi => absurd hi (by omega)⟩
  · exact ⟨by decide, fun i hi => absurd hi (by omega)⟩
theorem Js.getD_mem {α : Type} {l : List α} {j : Nat} {d : α} (h : j < l.length) : l.getD j d ∈ l := by
  rw [List.getD_eq_getElem?_getD, List.getElem?_eq_getElem h]
  exact List.getElem_mem h
theorem Js.again_node (d : Nat) (k : Int) (hk : 5 ≤ k) (ks : List ByteArray) (L : List Vt) (h1 : ∀ b ∈ ks, Pl.mayL b.data.toList = true) (h2 : ∀ t ∈ L, Js.Again d t) : Js.Again (d + 1) (Js.node k ks L) := by
  refine ⟨?_, ?_, ?_⟩
  · unfold Js.node
    rw [Js.back, if_neg (by omega), if_neg (by omega), if_neg (by omega)]
    congr 1
    · funext i
      split
      · rename_i hi
        exact (h2 _ (Js.getD_mem hi)).1
      · rename_i hi
        exact (Js.getD_beyond _ _ _ (by omega)).symm
    · funext j
      split
      · rfl
      · rename_i hj
        exact (Js.getD_beyond _ _ _ (by omega)).symm
  · exact ⟨fun j hj => h1 _ (Js.getD_mem hj), fun i hi => (h2 _ (Js.getD_mem hi)).2.1⟩
  · exact ⟨by decide, fun i hi => (h2 _ (Js.getD_mem hi)).2.2⟩
theorem Js.key_again {rec : Bool} {l r : List UInt8} {ks : List ByteArray} (h : Js.key rec l = some (ks, r)) (hz : Js.zeros l = false) : (∀ b ∈ ks, Pl.mayL b.data.toList = true) ∧ r <:+ l := by
  unfold Js.key at h
  split at h
  · split at h
    · cases h
    · rename_i r0 h0
      split at h
      · cases h
      · rename_i k r1 h1
        split at h
        · cases h
        · rename_i r2 h2
          simp only [Option.some.injEq, Prod.mk.injEq] at h
          obtain ⟨rfl, rfl⟩ := h
          have e0 := Js.is_suffix h0
          have e1 := Js.text_may h1 (Js.zeros_suffix e0 hz)
          have e2 := Js.is_suffix h2
          exact ⟨fun b hb => by rw [List.mem_singleton.1 hb]; exact e1.1, (e2.trans e1.2).trans e0⟩
  · simp only [Option.some.injEq, Prod.mk.injEq] at h
    obtain ⟨rfl, rfl⟩ := h
    exact ⟨fun b hb => (by cases hb), List.suffix_refl _⟩
theorem Js.items_again {val : List UInt8 → Option (Vt × List UInt8)} {d : Nat} (hv : ∀ l t r, val l = some (t, r) → Js.zeros l = false → Js.Again d t ∧ r <:+ l) (rec : Bool) (e : UInt8) : ∀ (f : Nat) (l : List UInt8) (p : List ByteArray × List Vt) (r : List UInt8), Js.itemsF val rec e f l = some (p, r) → Js.zeros l = false → (∀ b ∈ p.1, Pl.mayL b.data.toList = true) ∧ (∀ t ∈ p.2, Js.Again d t) ∧ r <:+ l
  | 0, _, _, _, h, _ => by cases h
  | f + 1, l, p, r, h, hz => by
    rw [Js.itemsF] at h
    split at h
    · cases h
    · rename_i ks r1 h1
      obtain ⟨k1, s1⟩ := Js.key_again h1 hz
      split at h
      · cases h
      · rename_i t r2 h2
        obtain ⟨k2, s2⟩ := hv _ _ _ h2 (Js.zeros_suffix s1 hz)
        split at h
        · rename_i r3 h3
          simp only [Option.some.injEq, Prod.mk.injEq] at h
          obtain ⟨rfl, rfl⟩ := h
          exact ⟨k1, fun x hx => by rw [List.mem_singleton.1 hx]; exact k2, ((Js.is_suffix h3).trans s2).trans s1⟩
        · split at h
          · cases h
          · rename_i r3 h3
            obtain ⟨⟨q1, q2⟩, hq, e'⟩ := Option.map_eq_some_iff.1 h
            simp only [Prod.mk.injEq] at e'
            obtain ⟨rfl, rfl⟩ := e'
            have s3 := ((Js.is_suffix h3).trans s2).trans s1
            obtain ⟨g1, g2, g3⟩ := Js.items_again hv rec e f r3 q1 q2 hq (Js.zeros_suffix s3 hz)
            refine ⟨fun b hb => ?_, fun x hx => ?_, g3.trans s3⟩
            · rcases List.mem_append.1 hb with q | q
              · exact k1 b q
              · exact g1 b q
            · rcases List.mem_cons.1 hx with rfl | q
              · exact k2
              · exact g2 x q
theorem Js.list_again {val : List UInt8 → Option (Vt × List UInt8)} {d : Nat} (hv : ∀ l t r, val l = some (t, r) → Js.zeros l = false → Js.Again d t ∧ r <:+ l) {rec : Bool} {e : UInt8} {l : List UInt8} {p : List ByteArray × List Vt} {r : List UInt8} (h : Js.list val rec e l = some (p, r)) (hz : Js.zeros l = false) : (∀ b ∈ p.1, Pl.mayL b.data.toList = true) ∧ (∀ t ∈ p.2, Js.Again d t) ∧ r <:+ l := by
  unfold Js.list at h
  split at h
  · rename_i r0 h0
    simp only [Option.some.injEq, Prod.mk.injEq] at h
    obtain ⟨rfl, rfl⟩ := h
    exact ⟨fun b hb => (by cases hb), fun t ht => (by cases ht), Js.is_suffix h0⟩
  · exact Js.items_again hv rec e _ _ _ _ h hz
theorem Js.numOf_again (d : Nat) {neg : Bool} {ds r r' : List UInt8} {t : Vt} (h : Js.numOf neg ds r = some (t, r')) : Js.Again d t := by
  unfold Js.numOf at h
  split at h
  · cases h
  · split at h
    · simp only [Option.some.injEq, Prod.mk.injEq] at h
      rw [← h.1]
      exact Js.again_zero d
    · simp only [Option.some.injEq, Prod.mk.injEq] at h
      rw [← h.1]
      exact Js.again_leaf d 2 _ (by decide)
theorem Js.number_again (d : Nat) {l r : List UInt8} {t : Vt} (h : Js.number l = some (t, r)) : Js.Again d t ∧ r <:+ l := by
  unfold Js.number at h
  split at h
  · have := (Js.numOf_rest h).2
    subst this
    exact ⟨Js.numOf_again d h, (List.dropWhile_suffix _).trans (List.drop_suffix 1 l)⟩
  · have := (Js.numOf_rest h).2
    subst this
    exact ⟨Js.numOf_again d h, List.dropWhile_suffix _⟩
theorem Js.value_again : ∀ (d : Nat) (l : List UInt8) (t : Vt) (r : List UInt8), Js.value d l = some (t, r) → Js.zeros l = false → Js.Again d t ∧ r <:+ l
  | 0, _, _, _, h, _ => by cases h
  | d + 1, l0, t, r, h, hz0 => by
    rw [Js.value] at h
    have hw := Js.ws_suffix l0
    have hz := Js.zeros_suffix hw hz0
    generalize Js.ws l0 = l at h hw hz
    suffices Js.Again (d + 1) t ∧ r <:+ l from ⟨this.1, this.2.trans hw⟩
    unfold Js.at at h
    split at h
    · cases h
    · split at h
      · simp only [Option.some.injEq, Prod.mk.injEq] at h
        rw [← h.1, ← h.2]
        exact ⟨Js.again_leaf _ 0 0 (by decide), List.drop_suffix _ _⟩
      · split at h
        · simp only [Option.some.injEq, Prod.mk.injEq] at h
          rw [← h.1, ← h.2]
          exact ⟨Js.again_leaf _ 1 1 (by decide), List.drop_suffix _ _⟩
        · split at h
          · simp only [Option.some.injEq, Prod.mk.injEq] at h
            rw [← h.1, ← h.2]
            exact ⟨Js.again_leaf _ 1 0 (by decide), List.drop_suffix _ _⟩
          · have hs := List.drop_suffix 1 l
            split at h
            · obtain ⟨⟨q1, q2⟩, hq, e⟩ := Option.map_eq_some_iff.1 h
              simp only [Prod.mk.injEq] at e
              rw [← e.1, ← e.2]
              have := Js.text_may hq (Js.zeros_suffix hs hz)
              exact ⟨Js.again_text _ _ this.1, this.2.trans hs⟩
            · split at h
              · obtain ⟨⟨q1, q2⟩, hq, e⟩ := Option.map_eq_some_iff.1 h
                simp only [Prod.mk.injEq] at e
                rw [← e.1, ← e.2]
                obtain ⟨g1, g2, g3⟩ := Js.list_again (Js.value_again d) hq (Js.zeros_suffix hs hz)
                exact ⟨Js.again_node d 5 (by decide) _ _ g1 g2, g3.trans hs⟩
              · split at h
                · obtain ⟨⟨q1, q2⟩, hq, e⟩ := Option.map_eq_some_iff.1 h
                  simp only [Prod.mk.injEq] at e
                  rw [← e.1, ← e.2]
                  obtain ⟨g1, g2, g3⟩ := Js.list_again (Js.value_again d) hq (Js.zeros_suffix hs hz)
                  exact ⟨Js.again_node d 6 (by decide) _ _ g1 g2, g3.trans hs⟩
                · exact Js.number_again _ h
theorem Js.get_parts {l : List UInt8} {t : Vt} (h : Js.get l = some t) : l.length ≤ 65536 ∧ t.may = true ∧ ∃ r, Js.value 8 l = some (t, r) ∧ Js.ws r = [] := by
  unfold Js.get at h
  split at h
  · cases h
  · rename_i hl
    split at h
    · cases h
    · rename_i t' r hv
      split at h
      · rename_i hw
        injection h with h
        subst h
        exact ⟨by omega, hw.2, r, hv, hw.1⟩
      · cases h
theorem Js.get_again {l : List UInt8} {t : Vt} (h : Js.get l = some t) (hz : Js.zeros l = false) (hl : (Js.put t).length ≤ 65536) : Js.get (Js.put t) = some t := by
  obtain ⟨_, hm, r, hv, _⟩ := Js.get_parts h
  obtain ⟨⟨h1, h2, h3⟩, _⟩ := Js.value_again 8 l t r hv hz
  have := Js.get_put hm h3 h2 hl
  rw [h1] at this
  exact this
end Go.Proofs.YtboalkfagfgnpaaGreatDoor

/-
  PLAIN: blanks around all signs turn nothing.
-/
import Derived.Test.YtboalkfagfgnpaaDoorJNum
namespace Go.Proofs.YtboalkfagfgnpaaDoor
def Js.Gap (b : List UInt8) : Prop := ∀ c ∈ b, Js.blank c = true
theorem Js.ws_gap : ∀ {b : List UInt8}, Js.Gap b → ∀ l, Js.ws (b ++ l) = Js.ws l
  | [], _, _ => rfl
  | c :: b, h, l => by
    show List.dropWhile Js.blank (c :: (b ++ l)) = _
    rw [List.dropWhile_cons, if_pos (h c List.mem_cons_self)]
    exact Js.ws_gap (fun d hd => h d (List.mem_cons_of_mem _ hd)) l
theorem Js.is_gap {b : List UInt8} (h : Js.Gap b) (c : UInt8) (l : List UInt8) : Js.is c (b ++ l) = Js.is c l := by
  unfold Js.is
  rw [Js.ws_gap h]
theorem Js.value_gap {b : List UInt8} (h : Js.Gap b) (d : Nat) (l : List UInt8) : Js.value d (b ++ l) = Js.value d l := by
  cases d with
  | zero => rfl
  | succ d => rw [Js.value, Js.value, Js.ws_gap h]
theorem Js.ends_gap {b : List UInt8} (h : Js.Gap b) {l : List UInt8} (hl : Js.ends l = true) : Js.ends (b ++ l) = true := by
  cases b with
  | nil => exact hl
  | cons c b =>
    show (_ || Js.blank c) = true
    rw [h c List.mem_cons_self, Bool.or_true]
theorem Js.text_one {c : UInt8} (h : Js.stays c = true) (r : List UInt8) : Js.text (c :: 34 :: r) = some ([c], r) := by
  obtain ⟨g1, g2, g3, g4, g5⟩ := Js.stays_low c h
  have e := Pl.sgn_one c (34 :: r) g4 g5
  rw [Js.text_sign g1 g2 g3 (by rw [e]; decide), e]
  rfl
/-- a key of one byte, blanks around it -/
theorem Js.key_gap {b : List UInt8} (h : Js.Gap b) {c : UInt8} (hc : Js.stays c = true) (r : List UInt8) : Js.key true (b ++ 34 :: c :: 34 :: (b ++ 58 :: r)) = some ([⟨#[c]⟩], r) := by
  unfold Js.key
  rw [if_pos rfl, Js.is_gap h, Js.is_yes rfl]
  simp only [Js.text_one hc, Js.is_gap h, Js.is_yes (c := 58) (l := r) rfl]
def Js.tB (k : Int) : Vt := Js.node 6 [⟨#[97]⟩, ⟨#[98]⟩] [Js.node 5 [] [Js.leaf 2 k 0 ⟨#[]⟩, Js.leaf 1 1 0 ⟨#[]⟩], Js.node 6 [] []]
def Js.lB (b n : List UInt8) : List UInt8 := b ++ 123 :: (b ++ 34 :: 97 :: 34 :: (b ++ 58 :: (b ++ 91 :: (b ++ (n ++ (b ++ 44 :: (b ++ 116 :: 114 :: 117 :: 101 :: (b ++ 93 :: (b ++ 44 :: (b ++ 34 :: 98 :: 34 :: (b ++ 58 :: (b ++ 123 :: (b ++ 125 :: (b ++ 125 :: b))))))))))))))
theorem Js.value_num (d : Nat) {k : Int} (h1 : -9007199254740991 ≤ k) (h2 : k ≤ 9007199254740991) {r : List UInt8} (hr : Js.ends r = true) : Js.value (d + 1) (Lib.itoa k ++ r) = some (Js.leaf 2 k 0 ⟨#[]⟩, r) := by
  obtain ⟨c, t, e1, h⟩ := Js.itoa_head k
  have hn := Js.number_itoa k h1 h2 hr
  have hb : Js.begins c = true := by
    unfold Js.begins
    rcases h with h | rfl
    · rw [h]; rfl
    · rfl
  rw [Js.value]
  rw [e1] at hn ⊢
  show Js.at _ (Js.ws (c :: (t ++ r))) = _
  rw [Js.ws_stay (Js.begins_facts c hb).1]
  exact (Js.at_number h).trans hn
theorem Js.is_num (c : UInt8) (hc : c = 93 ∨ c = 125) (k : Int) (r : List UInt8) : Js.is c (Lib.itoa k ++ r) = none := by
  obtain ⟨d, t, e1, h⟩ := Js.itoa_head k
  have hb : Js.begins d = true := by
    unfold Js.begins
    rcases h with h | rfl
    · rw [h]; rfl
    · rfl
  have hf := Js.begins_facts d hb
  rw [e1]
  exact Js.is_no hf.1 (by rcases hc with rfl | rfl; exact hf.2.1; exact hf.2.2.1)
theorem Js.list_no {val : List UInt8 → Option (Vt × List UInt8)} {rec : Bool} {e : UInt8} {l : List UInt8} (h : Js.is e l = none) : Js.list val rec e l = Js.itemsF val rec e l.length l := by
  unfold Js.list
  rw [h]
theorem Js.list_yes {val : List UInt8 → Option (Vt × List UInt8)} {rec : Bool} {e : UInt8} {l r : List UInt8} (h : Js.is e l = some r) : Js.list val rec e l = some (([], []), r) := by
  unfold Js.list
  rw [h]
theorem Js.fuel {val : List UInt8 → Option (Vt × List UInt8)} {rec : Bool} {e : UInt8} {l : List UInt8} {z : Option ((List ByteArray × List Vt) × List UInt8)} (n : Nat) (hn : n ≤ l.length) (h : ∀ f, Js.itemsF val rec e (f + n) l = z) : Js.itemsF val rec e l.length l = z := by
  have := h (l.length - n)
  rwa [Nat.sub_add_cancel hn] at this
theorem Js.inner {b : List UInt8} (h : Js.Gap b) (d : Nat) {k : Int} (h1 : -9007199254740991 ≤ k) (h2 : k ≤ 9007199254740991) (r : List UInt8) : Js.value (d + 2) (91 :: (b ++ (Lib.itoa k ++ (b ++ 44 :: (b ++ 116 :: 114 :: 117 :: 101 :: (b ++ 93 :: r)))))) = some (Js.node 5 [] [Js.leaf 2 k 0 ⟨#[]⟩, Js.leaf 1 1 0 ⟨#[]⟩], r) := by
  rw [Js.value, Js.ws_stay rfl, Js.at_list, Js.list_no (by rw [Js.is_gap h]; exact Js.is_num 93 (.inl rfl) k _)]
  have hv1 : Js.value (d + 1) (b ++ (Lib.itoa k ++ (b ++ 44 :: (b ++ 116 :: 114 :: 117 :: 101 :: (b ++ 93 :: r))))) = some (Js.leaf 2 k 0 ⟨#[]⟩, b ++ 44 :: (b ++ 116 :: 114 :: 117 :: 101 :: (b ++ 93 :: r))) := by
    rw [Js.value_gap h]
    exact Js.value_num d h1 h2 (Js.ends_gap h rfl)
  have hv2 : Js.value (d + 1) (b ++ 116 :: 114 :: 117 :: 101 :: (b ++ 93 :: r)) = some (Js.leaf 1 1 0 ⟨#[]⟩, b ++ 93 :: r) := by
    rw [Js.value_gap h, Js.value, Js.ws_stay rfl]
    exact Js.at_true _ _
  rw [Js.fuel (z := some (([], [Js.leaf 2 k 0 ⟨#[]⟩, Js.leaf 1 1 0 ⟨#[]⟩]), r)) 2 (by simp only [List.length_append, List.length_cons]; omega) fun f => ?_]
  · rfl
  · rw [Js.itemsF_next (f := f + 1) rfl hv1 (by rw [Js.is_gap h]; exact Js.is_no rfl (by decide)) (by rw [Js.is_gap h]; exact Js.is_yes rfl), Js.itemsF_end (f := f) rfl hv2 (by rw [Js.is_gap h]; exact Js.is_yes rfl)]
    rfl
theorem Js.get_blanks {b : List UInt8} (h : Js.Gap b) (hl : b.length ≤ 100) {k : Int} (h1 : -9007199254740991 ≤ k) (h2 : k ≤ 9007199254740991) : Js.get (Js.lB b (Lib.itoa k)) = some (Js.tB k) := by
  have hs : (Lib.itoa k).length ≤ 21 := Jk.len h1 h2
  have hv : Js.value 8 (Js.lB b (Lib.itoa k)) = some (Js.tB k, b) := by
    unfold Js.lB
    rw [Js.value_gap h, Js.value, Js.ws_stay rfl, Js.at_rec, Js.list_no (by rw [Js.is_gap h]; exact Js.is_no rfl (by decide))]
    have hv1 := Js.inner h 5 h1 h2 (b ++ 44 :: (b ++ 34 :: 98 :: 34 :: (b ++ 58 :: (b ++ 123 :: (b ++ 125 :: (b ++ 125 :: b))))))
    rw [← Js.value_gap h] at hv1
    have hv2 : Js.value 7 (b ++ 123 :: (b ++ 125 :: (b ++ 125 :: b))) = some (Js.node 6 [] [], b ++ 125 :: b) := by
      rw [Js.value_gap h, Js.value, Js.ws_stay rfl, Js.at_rec, Js.list_yes (r := b ++ 125 :: b) (by rw [Js.is_gap h]; exact Js.is_yes rfl)]
      rfl
    rw [Js.fuel (z := some (([⟨#[97]⟩, ⟨#[98]⟩], [Js.node 5 [] [Js.leaf 2 k 0 ⟨#[]⟩, Js.leaf 1 1 0 ⟨#[]⟩], Js.node 6 [] []]), b)) 2 (by simp only [List.length_append, List.length_cons]; omega) fun f => ?_]
    · rfl
    · rw [Js.itemsF_next (f := f + 1) (Js.key_gap h rfl _) hv1 (by rw [Js.is_gap h]; exact Js.is_no rfl (by decide)) (by rw [Js.is_gap h]; exact Js.is_yes rfl), Js.itemsF_end (f := f) (Js.key_gap h rfl _) hv2 (by rw [Js.is_gap h]; exact Js.is_yes rfl)]
      rfl
  have hm : (Js.tB k).may = true := by
    have e : (⟨#[]⟩ : ByteArray).toList = [] := ByteArray.toList_eq _
    have k0 : Vt.key (fun j => ([⟨#[97]⟩, ⟨#[98]⟩] : List ByteArray)[j]?.getD ⟨#[]⟩) 0 = true := by kernel_rfl
    have k1 : Vt.key (fun j => ([⟨#[97]⟩, ⟨#[98]⟩] : List ByteArray)[j]?.getD ⟨#[]⟩) 1 = true := by kernel_rfl
    unfold Vt.may Js.tB Js.node
    simp [Vt.stand, Vt.run, Js.leaf, Vt.formed, e, h1, h2, k0, k1, Vt.keysOk]
  have hw : Js.ws b = [] := by
    have := Js.ws_gap h []
    rw [List.append_nil] at this
    exact this
  unfold Js.get
  rw [if_neg, hv]
  · show (if Js.ws b = [] ∧ (Js.tB k).may = true then _ else _) = _
    rw [if_pos ⟨hw, hm⟩]
  · unfold Js.lB
    simp only [List.length_append, List.length_cons]
    omega
end Go.Proofs.YtboalkfagfgnpaaDoor

/-
  THE WALK of stolelaw2.RefNames: for any number and any text of up to 2^30 bytes it returns true, and turns nothing that was there.
-/
import Derived.Test.YtpehplamidbkeaaDoorRefSafe
import Derived.BigQuiet
import Derived.Deep.Cut
namespace Go.Proofs.YtpehplamidbkeaaDoor
open Go.RowKit

def Nm.names : Array Value := #[.string ⟨#[97, 109, 112]⟩, .string ⟨#[108, 116]⟩, .string ⟨#[103, 116]⟩, .string ⟨#[113, 117, 111, 116]⟩, .string ⟨#[97, 112, 111, 115]⟩, .string ⟨#[110, 98, 115, 112]⟩, .string ⟨#[99, 111, 112, 121]⟩]
def Nm.signs : Array Value := #[.string ⟨#[38]⟩, .string ⟨#[60]⟩, .string ⟨#[62]⟩, .string ⟨#[34]⟩, .string ⟨#[39]⟩, .string ⟨#[194, 160]⟩, .string ⟨#[194, 169]⟩]
/-- the two rows of texts, as the law lays them -/
def Nm.laid (w : World) : World := (w.alloc (.cells Nm.names 9)).alloc (.cells Nm.signs 9)
theorem Nm.below (w : World) : Below w.heap.size w (Nm.laid w) := ((Below.refl _ _).alloc (Nat.le_refl _) _).alloc (by simp) _
theorem Nm.size (w : World) : (Nm.laid w).heap.size = w.heap.size + 2 := by simp [Nm.laid]
theorem Nm.name_at {w w' : World} (h : Below (Nm.laid w).heap.size (Nm.laid w) w') (k : Nat) (v : Value) (hv : Nm.names[k]? = some v) : w'.cell? ⟨w.heap.size, k, none⟩ = some v := by
  have hb := h.block w.heap.size (by rw [Nm.size]; omega)
  have h0 : (Nm.laid w).heap[w.heap.size]? = some (.cells Nm.names 9 (0, 0)) := by
    have := ((Below.refl (w.heap.size + 1) (w.alloc (.cells Nm.names 9))).alloc (by simp) (.cells Nm.signs 9)).block w.heap.size (by omega)
    exact this.trans (heap_alloc_new w _)
  rw [Lib.cell_of_heap (hb.trans h0)]
  exact hv
theorem Nm.sign_at {w w' : World} (h : Below (Nm.laid w).heap.size (Nm.laid w) w') (k : Nat) (v : Value) (hv : Nm.signs[k]? = some v) : w'.cell? ⟨w.heap.size + 1, k, none⟩ = some v := by
  have hb := h.block (w.heap.size + 1) (by rw [Nm.size]; omega)
  have h0 : (Nm.laid w).heap[w.heap.size + 1]? = some (.cells Nm.signs 9 (0, 0)) := by
    have := heap_alloc_new (w.alloc (.cells Nm.names 9)) (.cells Nm.signs 9)
    rw [show (w.alloc (.cells Nm.names 9)).heap.size = w.heap.size + 1 by simp] at this
    exact this
  rw [Lib.cell_of_heap (hb.trans h0)]
  exact hv
/-- THE WORLDS IN WHICH ALL THAT LAY IN L LIES STILL: a class for a region that draws its order and whose calls make memory. -/
def Nm.Wd (L : World) : Type := { u : World // Below L.heap.size L u }
theorem Nm.wd_ne (L : World) : Nonempty (Nm.Wd L) := ⟨⟨L, Below.refl _ _⟩⟩
/-- the quiet walk's theorem at this class -/
theorem Nm.region {L : World} {id : Nat} {Q : Exit → Act → World → Prop} {a : Act} {l : List Oper} (hB : Region.lexB .any l.toArray = true)
    (h : wpQuiet Tryd.prog l.toArray (fun u => ∃ q : Nm.Wd L, u = q.1) (fun a' => ∀ w', (∃ q : Nm.Wd L, w' = q.1) → Q .normal a' w') l a) : (Code.region id l.toArray true).wp Tryd.prog Q a L :=
  wp_region_quiet (C := fun u => ∃ q : Nm.Wd L, u = q.1) (by kernel_rfl) hB ⟨⟨_, (Below.refl _ _).drew⟩, rfl⟩ (by simpa using h)
theorem Nm.call {L : World} {f : FuncId} {args : Array Value} {v : Value} (q : Nm.Wd L) (h : Calls Tryd.prog f args q.1 fun e w' => e = .returned v ∧ Below q.1.heap.size q.1 w') :
    Calls Tryd.prog f args q.1 fun e w'' => e = .returned v ∧ ∃ m : Nm.Wd L, w'' = m.1 :=
  h.mono fun _ w'' ⟨he, hb⟩ => ⟨he, ⟨w'', Wk.below_step q.2 hb⟩, rfl⟩
theorem Nm.rem (x : Int) : ∃ k : Nat, k < 7 ∧ wrap64 ((IntKind.u64.wrap x).tmod 7) = k := by
  have h0 : IntKind.u64.wrap x = x % 18446744073709551616 := rfl
  refine ⟨((x % 18446744073709551616) % 7).toNat, by omega, ?_⟩
  rw [h0, Int.tmod_eq_emod_of_nonneg (by omega)]
  unfold wrap64
  omega
/-- what the seven names give -/
theorem Nm.laws : ∀ p ∈ Pl.names0, Pl.decL (38 :: p.1 ++ [59]) = p.2 ∧ Pl.decL (38 :: p.1) = 38 :: p.1 ∧ Pl.decL (38 :: p.1 ++ [32, 59]) = 38 :: p.1 ++ [32, 59] ∧ Pl.decL (38 :: 65 :: p.1 ++ [59]) = 38 :: 65 :: p.1 ++ [59]
    ∧ Pl.decL (38 :: p.1 ++ [59] ++ (38 :: p.1) ++ [59]) = p.2 ++ p.2 ∧ (59 : UInt8) ∉ p.1 ∧ Pl.refR p.1 = some p.2 ∧ p.1.length ≤ 4 ∧ p.2.length ≤ 2 := by decide +kernel
theorem Nm.tail (b g t : List UInt8) (h59 : (59 : UInt8) ∉ b) (hr : Pl.refR b = some g) : Pl.decL (120 :: 38 :: b ++ [59] ++ Pl.encL t) = 120 :: g ++ Pl.normL t := by
  have hb := Pl.refL_body b (Pl.encL t) h59
  rw [hr] at hb
  have h1 := Pl.dec_body (b ++ [59]) g (Pl.encL t) (b.length + 1) (by simpa using hb) (by simp) (by simp)
  have h2 : (120 :: 38 :: b ++ [59] ++ Pl.encL t) = 120 :: (38 :: (b ++ [59] ++ Pl.encL t)) := by simp
  rw [h2, Pl.decL_other 120 _ (by decide), h1, Pl.dec_enc']
  rfl
theorem Nm.pick (k : Nat) (hk : k < 7) : ∃ p ∈ Pl.names0, Nm.names[k]? = some (.string ⟨p.1.toArray⟩) ∧ Nm.signs[k]? = some (.string ⟨p.2.toArray⟩) := by
  have : k = 0 ∨ k = 1 ∨ k = 2 ∨ k = 3 ∨ k = 4 ∨ k = 5 ∨ k = 6 := by omega
  rcases this with rfl | rfl | rfl | rfl | rfl | rfl | rfl
  · exact ⟨([97, 109, 112], [38]), by decide, rfl, rfl⟩
  · exact ⟨([108, 116], [60]), by decide, rfl, rfl⟩
  · exact ⟨([103, 116], [62]), by decide, rfl, rfl⟩
  · exact ⟨([113, 117, 111, 116], [34]), by decide, rfl, rfl⟩
  · exact ⟨([97, 112, 111, 115], [39]), by decide, rfl, rfl⟩
  · exact ⟨([110, 98, 115, 112], [194, 160]), by decide, rfl, rfl⟩
  · exact ⟨([99, 111, 112, 121], [194, 169]), by decide, rfl, rfl⟩

/-- texts that are known, of the seven names -/
theorem Nm.texts (k : Nat) (hk : k < 7) (t n y : ByteArray) (hn : Pl.normL t.data.toList = n.data.toList) (hy : Pl.encL t.data.toList = y.data.toList) : ∃ N G : ByteArray, Nm.names[k]? = some (.string N) ∧ Nm.signs[k]? = some (.string G) ∧ N.size ≤ 4 ∧ G.size ≤ 2
    ∧ Hid (Pl.decL ((⟨#[38]⟩ ++ N) ++ ⟨#[59]⟩ : ByteArray).data.toList = (G : ByteArray).data.toList)
    ∧ Hid (Pl.decL ((⟨#[38]⟩ ++ N) : ByteArray).data.toList = ((⟨#[38]⟩ ++ N) : ByteArray).data.toList)
    ∧ Hid (Pl.decL ((⟨#[38]⟩ ++ N) ++ ⟨#[32, 59]⟩ : ByteArray).data.toList = ((⟨#[38]⟩ ++ N) ++ ⟨#[32, 59]⟩ : ByteArray).data.toList)
    ∧ Hid (Pl.decL (⟨#[38, 65]⟩ ++ N ++ ⟨#[59]⟩ : ByteArray).data.toList = (⟨#[38, 65]⟩ ++ N ++ ⟨#[59]⟩ : ByteArray).data.toList)
    ∧ Hid (Pl.decL ((⟨#[38]⟩ ++ N) ++ ⟨#[59]⟩ ++ (⟨#[38]⟩ ++ N) ++ ⟨#[59]⟩ : ByteArray).data.toList = (G ++ G : ByteArray).data.toList)
    ∧ Hid (Pl.decL (⟨#[120]⟩ ++ (⟨#[38]⟩ ++ N) ++ ⟨#[59]⟩ ++ y : ByteArray).data.toList = (⟨#[120]⟩ ++ G ++ n : ByteArray).data.toList)
    := by
  obtain ⟨p, hp, e1, e2⟩ := Nm.pick k hk
  obtain ⟨l1, l2, l3, l4, l5, l6, l7, l8, l9⟩ := Nm.laws p hp
  have l10 := Nm.tail p.1 p.2 t.data.toList l6 l7
  refine ⟨⟨p.1.toArray⟩, ⟨p.2.toArray⟩, e1, e2, l8, l9, ?_, ?_, ?_, ?_, ?_, ?_⟩
  all_goals show _ = _
  all_goals simp only [Wk.cat2_data]
  · exact l1
  · exact l2
  · exact l3
  · exact l4
  · exact l5
  · rw [← hy, ← hn]; exact l10

set_option maxRecDepth 100000 in
set_option maxHeartbeats 8000000 in
theorem Law.refNames (x : Int) (t : ByteArray) (w : World) (hT : Lib.Utf8Tabs 1 2 w) (ht : t.size ≤ 1073741824) :
    Calls Tryd.prog 6 #[.int .i64 x, .string t] w fun e w' => e = .returned (.bool true) ∧ Below w.heap.size w w' := by
  obtain ⟨k, hk7, hk⟩ := Nm.rem x
  obtain ⟨n, HNo, hn⟩ := Wk.ex_norm t
  obtain ⟨y, HY, hy⟩ := Wk.ex_enc t
  obtain ⟨N, G, eN, eG, hN, hG, H1, H2, H3, H4, H5, H6⟩ := Nm.texts k hk7 t n y HNo.out HY.out
  have ENG : Hid (Nm.names[k]? = some (.string N) ∧ Nm.signs[k]? = some (.string G)) := ⟨eN, eG⟩
  clear eN eG
  obtain ⟨S1, eS1⟩ : ∃ v : ByteArray, ⟨#[38]⟩ ++ N = v := ⟨_, rfl⟩
  have zS1 : S1.size = N.size + 1 := by
    rw [← eS1, Wk.cat2_size]
    first | omega | (simp only [ByteArray.size, List.size_toArray, List.length_cons, List.length_nil] at *; try omega)
  obtain ⟨S2, eS2⟩ : ∃ v : ByteArray, S1 ++ ⟨#[59]⟩ = v := ⟨_, rfl⟩
  have zS2 : S2.size = N.size + 2 := by
    rw [← eS2, Wk.cat2_size]
    first | omega | (simp only [ByteArray.size, List.size_toArray, List.length_cons, List.length_nil] at *; try omega)
  obtain ⟨S3, eS3⟩ : ∃ v : ByteArray, S1 ++ ⟨#[32, 59]⟩ = v := ⟨_, rfl⟩
  have zS3 : S3.size = N.size + 3 := by
    rw [← eS3, Wk.cat2_size]
    first | omega | (simp only [ByteArray.size, List.size_toArray, List.length_cons, List.length_nil] at *; try omega)
  obtain ⟨S4, eS4⟩ : ∃ v : ByteArray, ⟨#[38, 65]⟩ ++ N = v := ⟨_, rfl⟩
  have zS4 : S4.size = N.size + 2 := by
    rw [← eS4, Wk.cat2_size]
    first | omega | (simp only [ByteArray.size, List.size_toArray, List.length_cons, List.length_nil] at *; try omega)
  obtain ⟨S5, eS5⟩ : ∃ v : ByteArray, S4 ++ ⟨#[59]⟩ = v := ⟨_, rfl⟩
  have zS5 : S5.size = N.size + 3 := by
    rw [← eS5, Wk.cat2_size]
    first | omega | (simp only [ByteArray.size, List.size_toArray, List.length_cons, List.length_nil] at *; try omega)
  obtain ⟨S6, eS6⟩ : ∃ v : ByteArray, S2 ++ S1 = v := ⟨_, rfl⟩
  have zS6 : S6.size = N.size + N.size + 3 := by
    rw [← eS6, Wk.cat2_size]
    first | omega | (simp only [ByteArray.size, List.size_toArray, List.length_cons, List.length_nil] at *; try omega)
  obtain ⟨S7, eS7⟩ : ∃ v : ByteArray, S6 ++ ⟨#[59]⟩ = v := ⟨_, rfl⟩
  have zS7 : S7.size = N.size + N.size + 4 := by
    rw [← eS7, Wk.cat2_size]
    first | omega | (simp only [ByteArray.size, List.size_toArray, List.length_cons, List.length_nil] at *; try omega)
  obtain ⟨G2, eG2⟩ : ∃ v : ByteArray, G ++ G = v := ⟨_, rfl⟩
  have zG2 : G2.size = G.size + G.size := by rw [← eG2, Wk.cat2_size]
  obtain ⟨X1, eX1⟩ : ∃ v : ByteArray, ⟨#[120]⟩ ++ S1 = v := ⟨_, rfl⟩
  have zX1 : X1.size = N.size + 2 := by
    rw [← eX1, Wk.cat2_size]
    first | omega | (simp only [ByteArray.size, List.size_toArray, List.length_cons, List.length_nil] at *; try omega)
  obtain ⟨X2, eX2⟩ : ∃ v : ByteArray, X1 ++ ⟨#[59]⟩ = v := ⟨_, rfl⟩
  have zX2 : X2.size = N.size + 3 := by
    rw [← eX2, Wk.cat2_size]
    first | omega | (simp only [ByteArray.size, List.size_toArray, List.length_cons, List.length_nil] at *; try omega)
  obtain ⟨X3, eX3⟩ : ∃ v : ByteArray, X2 ++ y = v := ⟨_, rfl⟩
  have zX3 : X3.size = N.size + y.size + 3 := by
    rw [← eX3, Wk.cat2_size]
    first | omega | (simp only [ByteArray.size, List.size_toArray, List.length_cons, List.length_nil] at *; try omega)
  obtain ⟨Y1, eY1⟩ : ∃ v : ByteArray, ⟨#[120]⟩ ++ G = v := ⟨_, rfl⟩
  have zY1 : Y1.size = G.size + 1 := by
    rw [← eY1, Wk.cat2_size]
    first | omega | (simp only [ByteArray.size, List.size_toArray, List.length_cons, List.length_nil] at *; try omega)
  obtain ⟨Y2, eY2⟩ : ∃ v : ByteArray, Y1 ++ n = v := ⟨_, rfl⟩
  have zY2 : Y2.size = G.size + n.size + 1 := by
    rw [← eY2, Wk.cat2_size]
    first | omega | (simp only [ByteArray.size, List.size_toArray, List.length_cons, List.length_nil] at *; try omega)
  rw [eS1, eS2] at H1
  rw [eS1] at H2
  rw [eS1, eS3] at H3
  rw [eS4, eS5] at H4
  rw [eS1, eS2, eS6, eS7, eG2] at H5
  rw [eS1, eX1, eX2, eX3, eY1, eY2] at H6
  go_enter Tryd.func6, Tryd.ntmps6
  go_wp2_with fail
  refine (Aw.awake w hT).mono ?_
  rintro e w1 ⟨rfl, b1⟩
  have t1 := Utf8Tabs_below hT b1
  have bn := Nm.below w1
  have B1 := Wk.below_step b1 bn
  have T1 := Utf8Tabs_below t1 bn
  have ne := Nm.wd_ne (Nm.laid w1)
  have cn : ∀ q : Nm.Wd (Nm.laid w1), q.1.cell? ⟨w1.heap.size, k, none⟩ = some (.string N) := fun q => Nm.name_at q.2 k (.string N) ENG.out.1
  have cs : ∀ q : Nm.Wd (Nm.laid w1), q.1.cell? ⟨w1.heap.size + 1, k, none⟩ = some (.string G) := fun q => Nm.sign_at q.2 k (.string G) ENG.out.2
  have cL : (Nm.laid w1).cell? ⟨w1.heap.size, k, none⟩ = some (.string N) := Nm.name_at (Below.refl _ _) k (.string N) ENG.out.1
  clear b1 t1 bn ENG
  obtain ⟨L, hL⟩ : ∃ L, Nm.laid w1 = L := ⟨_, rfl⟩
  have hL' := hL
  rw [hL] at B1 T1 ne cn cs cL
  unfold Nm.laid Nm.names Nm.signs at hL'
  have c1 := fun q : Nm.Wd L => Nm.call q (Rr.dec_to _ _ H1.out q.1 (by omega))
  have c2 := fun q : Nm.Wd L => Nm.call q (Rr.dec_to _ _ H2.out q.1 (by omega))
  have c3 := fun q : Nm.Wd L => Nm.call q (Rr.dec_to _ _ H3.out q.1 (by omega))
  have c4 := fun q : Nm.Wd L => Nm.call q (Rr.dec_to _ _ H4.out q.1 (by omega))
  have c5 := fun q : Nm.Wd L => Nm.call q (Rr.dec_to _ _ H5.out q.1 (by omega))
  have c6 := fun q : Nm.Wd L => Nm.call q (Rr.dec_to _ _ H6.out q.1 (by omega))
  have c7 := fun q : Nm.Wd L => Nm.call q (Re.enc_to t y HY.out q.1 (Utf8Tabs_below T1 q.2) (by omega))
  have c8 := fun q : Nm.Wd L => Nm.call q (Sz.norm_to t n HNo.out q.1 (by omega))
  go_upto_region 6 with fail


  clear hL hL'
  go_wp2_with fail
  simp only [List.append]
  refine Nm.region (L := L) (by kernel_rfl) ?_
  repeat (go_big_quiet_step (first | (go_at_call_of 11 S2; exact c1 _) | (go_at_call_of 11 S3; exact c3 _) | (go_at_call_of 11 S5; exact c4 _) | (go_at_call_of 11 S7; exact c5 _) | (go_at_call_of 11 X3; exact c6 _) | (go_at_call_of 11 S1; exact c2 _) | (go_at_call_of 9 t; exact c7 _) | (go_at_call_of 14 t; exact c8 _)))
  refine wpQuiet_nil ?_
  rintro _ ⟨q, rfl⟩
  go_wp2
  go_ret
  exact ⟨rfl, Wk.below_step B1 q.2⟩
end Go.Proofs.YtpehplamidbkeaaDoor

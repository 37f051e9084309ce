/-
  THE WALK of lex's readAction.
-/
import Derived.Test.YtjppobeomocgbaaGreatDoorTLTelltoLRead
import Derived.Deep.RegionWith
namespace Go.Proofs.YtjppobeomocgbaaGreatDoor
open Go.RowKit
/-- what readAction answers -/
def Sq.RAct (w w' : World) (g : Nat) (s : ByteArray) (o : Nat) (ps : List Pc) (e : Ending) : Option La → Prop
  | none => e = .returned (.bool false) ∧ Below g w w'
  | some a => ∃ v', e = .returned (.bool true) ∧ Sq.At2 w w' g s a.fin v' (o : Int) a.trims (ps ++ if a.com = true then [] else [⟨true, a.text, o⟩])
theorem Sq.RAct.com {w w' : World} {g : Nat} {s : ByteArray} {v : Value} {o : Nat} {ps : List Pc} {r : Option La} {tr en : Bool} {j : Nat} (h : Sq.At2 w w' g s j v (o : Int) tr ps) (h1 : r = none → en = false) (h2 : ∀ a, r = some a → en = true ∧ a = ⟨j, [], tr, true⟩) : Sq.RAct w w' g s o ps (.returned (.bool en)) r := by
  cases r with
  | none => exact ⟨by rw [h1 rfl], h.low⟩
  | some a =>
    obtain ⟨e1, e2⟩ := h2 a rfl
    subst e1 e2
    refine ⟨v, rfl, ?_⟩
    simp only [if_true, List.append_nil]
    exact h
set_option maxRecDepth 100000 in
set_option maxHeartbeats 4000000 in
theorem Sq.readAction (ps : List Pc) (g : Nat) (s : ByteArray) (i : Nat) (v : Value) (o : Nat) (t : Bool) (w : World) (h : Sq.At w g s i v (o : Int) t) (hr : Sq.Row w g v ps) (hM : Sq.M w g) (hi : i ≤ s.size) (hs : s.size ≤ 65536) (hn : ps.length ≤ 65536) (k : Nat) (hk : Lx.skip i (s.data.toList.drop i) = k) :
    Calls Tryz.prog 24 #[.pointer (some ⟨g, 0, none⟩)] w fun e w' => Sq.RAct w w' g s o ps e (Lx.act s.data.toList k) := by
  have hk2 := Lx.skip_ge (s.data.toList.drop i) i
  rw [List.length_drop, Wk.len_data, hk] at hk2
  have hk3 : k ≤ s.size := by omega
  have b0 := fun u q => Sq.skipBlanks g s i v (o : Int) t u q hi hs
  rw [hk] at b0
  have HA := Lib.hid (show Sq.At2 w w g s i v (o : Int) t ps from ⟨h, hr, Below.refl _ _⟩)
  have hg0 := hM.lt
  have HM := fun (u : World) (hb : Below g w u) => hM.then hb hg0
  cases h2 : Lx.two s.data.toList k 47 42 with
  | true =>
    have s1 := fun u q => Sq.skip2T 47 42 g s k v (o : Int) t u q hk3 hs h2
    have hl2 := Lx.two_lt h2
    rw [Wk.len_data] at hl2
    have c0 := fun u q m => Sq.comment g s (k + 2) v (o : Int) t u q m hl2 hs
    have ha : Lx.act s.data.toList k = Lx.comment s.data.toList (k + 2) := by unfold Lx.act; rw [if_pos h2]
    rw [ha]
    generalize Lx.comment s.data.toList (k + 2) = r at *
    clear h hr hM hk h2 ha
    go_enter Tryz.func24, Tryz.ntmps24
    go_wp2_with (first | (go_at_call 47; refine (b0 _ HA.out.at').mono ?_; rintro e w1 ⟨rfl, a1, b1⟩; have H1 := Lib.hid (HA.out.keep a1 b1); clear a1 b1 b0 HA) | (go_at_call 43; refine (s1 _ H1.out.at').mono ?_; rintro e w2 ⟨rfl, a2, b2⟩; have H2 := Lib.hid (H1.out.keep a2 b2); clear a2 b2 s1 H1) | (go_at_call 48; refine (c0 _ H2.out.at' (HM _ H2.out.low)).mono ?_; rintro e w3 ⟨tr, en, j, rfl, a3⟩; have H3 := Lib.hid (H2.out.keep a3.at' a3.kept); have HC := Lib.hid a3; clear a3 c0 H2; have d4 := H3.out.at'.c4; have f4 := H3.out.at'.fz))
    go_ret
    exact Sq.RAct.com (H3.out.keep (H3.out.at'.set4 tr) ((Sq.Kept.refl _ _).set _ _)) HC.out.none HC.out.some
  | false =>
    have s1 := fun u q => Sq.skip2F 47 42 g s k v (o : Int) t u q hk3 hs h2
    have c0 := fun u q => Sq.action g s k v (o : Int) t u q hk3 hs
    have ha : Lx.act s.data.toList k = Lx.plain s.data.toList k := by unfold Lx.act; rw [if_neg (by rw [h2]; decide)]
    rw [ha]
    cases hf : Lx.find false false k (s.data.toList.drop k) with
    | none =>
      rw [Lx.plain_none hf]
      rw [hf] at c0
      clear h hr hM hk h2 ha hf
      go_enter Tryz.func24, Tryz.ntmps24
      go_wp2_with (first | (go_at_call 47; refine (b0 _ HA.out.at').mono ?_; rintro e w1 ⟨rfl, a1, b1⟩; have H1 := Lib.hid (HA.out.keep a1 b1); clear a1 b1 b0 HA) | (go_at_call 43; refine (s1 _ H1.out.at').mono ?_; rintro e w2 ⟨rfl, a2, b2⟩; have H2 := Lib.hid (H1.out.keep a2 b2); clear a2 b2 s1 H1) | (go_at_call 49; refine (c0 _ H2.out.at').mono ?_; rintro e w3 ⟨j, rfl, a3⟩; have H3 := Lib.hid (H2.out.keep a3.at' a3.kept); clear a3 c0 H2; unfold Sq.actV))
      go_ret
      exact ⟨rfl, H3.out.low⟩
    | some f =>
      have hf2 := Lx.find_ge _ _ _ _ _ hf
      rw [List.length_drop, Wk.len_data] at hf2
      have hT : (s.extract k f).data.toList = (s.data.toList.drop k).take (f - k) := Lib.extract_data s k f
      have hTz : (s.extract k f).size ≤ 65536 := by rw [← Wk.len_data, hT, List.length_take, List.length_drop, Wk.len_data]; omega
      have ct := fun u => Sq.cutTrim (s.extract k f) u hTz
      have HP := fun (U : ByteArray) (q : Lq.Cut (s.extract k f) U (Lx.trims (s.extract k f).data.toList)) => Lx.plain_some hf hT rfl q.symm
      rw [hf] at c0
      rw [show Sq.actV s k (some f) = .tuple #[.string (s.extract k f), .bool true] from rfl] at c0
      generalize hTT : s.extract k f = T at *
      obtain ⟨tr, htr⟩ : ∃ tr, Lx.trims T.data.toList = tr := ⟨_, rfl⟩
      rw [htr] at ct HP
      have HUz : ∀ U : ByteArray, Lq.Cut T U tr → U.size ≤ 65536 := fun U q => by
        unfold Lq.Cut at q
        rw [← Wk.len_data, q]
        split
        · rw [List.length_take, Wk.len_data]; omega
        · rw [Wk.len_data]; exact hTz
      obtain ⟨r, hr2⟩ : ∃ r, Lx.plain s.data.toList k = r := ⟨_, rfl⟩
      rw [hr2]
      rw [hr2] at HP
      have HP' := Lib.hid HP
      have HUz' := Lib.hid HUz
      clear h hr hM hk h2 ha hf hT hTT htr hr2 HP HUz HM
      go_enter Tryz.func24, Tryz.ntmps24
      go_upto_region 10 with (first | (go_at_call 47; refine (b0 _ HA.out.at').mono ?_; rintro e w1 ⟨rfl, a1, b1⟩; have H1 := Lib.hid (HA.out.keep a1 b1); clear a1 b1 b0 HA) | (go_at_call 43; refine (s1 _ H1.out.at').mono ?_; rintro e w2 ⟨rfl, a2, b2⟩; have H2 := Lib.hid (H1.out.keep a2 b2); clear a2 b2 s1 H1) | (go_at_call 49; refine (c0 _ H2.out.at').mono ?_; rintro e w3 ⟨j, rfl, a3⟩; have ej := a3.find f rfl; subst ej; have H3 := Lib.hid (H2.out.keep a3.at' a3.kept); clear a3 c0 H2) | (go_at_call 50; refine (ct _).mono ?_; rintro e w4 ⟨U, rfl, hU, b4⟩; have HU := Lib.hid hU; have H4 := Lib.hid (H3.out.then b4); clear hU b4 ct H3; have d4 := H4.out.at'.c4; have f4 := H4.out.at'.fz))
      have H5 : Hid (Sq.At2 w (w4.setCell ⟨g, 4, none⟩ (.bool tr)) g s (f + 2) v (o : Int) tr ps) := H4.out.keep (H4.out.at'.set4 tr) ((Sq.Kept.refl _ _).set _ _)
      generalize w4.setCell ⟨g, 4, none⟩ (.bool tr) = w5 at *
      have d3 := H5.out.at'.c3
      have hUz := HUz'.out U HU.out
      have hr3 := HP'.out U HU.out
      have HR3 := Lib.hid hr3
      clear hr3
      have hX : Lx.right (Lx.left U.data.toList) = (⟨(Lx.right (Lx.left U.data.toList)).toArray⟩ : ByteArray).data.toList := rfl
      have kt := fun u => Sh.strings_Trim U ⟨#[9, 10, 32]⟩ u (by omega) (by decide) (Go.Proofs.ascii_of_all (by decide))
      rw [show Lib.trimS U.data.toList (⟨#[9, 10, 32]⟩ : ByteArray).data.toList = Lx.right (Lx.left U.data.toList) from Ll.both _] at kt
      have hXz : (Lx.right (Lx.left U.data.toList)).length ≤ 65536 := by
        have := Lx.right_len (Lx.left U.data.toList)
        have := Lx.left_len U.data.toList
        rw [Wk.len_data] at this
        omega
      have tl := fun u q r => Sq.tell true ⟨(Lx.right (Lx.left U.data.toList)).toArray⟩ o ps g s (f + 2) v (o : Int) tr u q r hn (by rw [← Wk.len_data]; exact hXz)
      rw [← hX] at tl
      clear hX hXz d4 f4 H4 HU HP' HUz'
      generalize Lx.right (Lx.left U.data.toList) = X at *
      generalize (⟨X.toArray⟩ : ByteArray) = E at *
      go_region_with (first | (go_at_call 51; refine (kt _).mono ?_; rintro e w6 ⟨rfl, b6⟩; have H6 := Lib.hid (Sq.At2.then (w1 := _) (by exact (H5.out.then (Below.refl _ _).drew)) b6); clear b6 kt; have d3' := H6.out.at'.c3) | (go_at_call 46; refine (tl _ H6.out.at' H6.out.row).mono ?_; rintro e w7 ⟨v7, rfl, a7, r7, b7⟩; have H7 := Lib.hid (show Sq.At2 w w7 g s (f + 2) v7 (o : Int) tr (ps ++ [⟨true, X, o⟩]) from ⟨a7, r7, H6.out.low.trans b7⟩); clear a7 r7 b7 tl))
      all_goals go_wp2
      all_goals go_ret
      all_goals rw [HR3.out]
      all_goals exact ⟨v7, rfl, H7.out⟩
end Go.Proofs.YtjppobeomocgbaaGreatDoor
/-
  lex.Split as the landed program has it.
-/
namespace Go.Proofs.YtjppobeomocgbaaGreatDoor
open Go.RowKit
theorem Lq.skip_mark {s : ByteArray} {I : Nat} {m : Bool} (hm : Lx.mark s.data.toList (I + 2) = m) : Lx.skip (if m = true then I + 3 else I + 2) (s.data.toList.drop (if m = true then I + 3 else I + 2)) = Lx.skip (if m = true then I + 4 else I + 2) (s.data.toList.drop (if m = true then I + 4 else I + 2)) := by
  cases m with
  | false => rfl
  | true =>
    rw [Lx.mark_eq] at hm
    split at hm
    · rename_i h
      simp only [Bool.and_eq_true] at hm
      rw [if_pos rfl, if_pos rfl]
      conv => lhs; rw [Lx.skip_step (by omega), if_pos hm.2]
    · cases hm
theorem Lq.mark_lt {s : ByteArray} {I : Nat} {m : Bool} (hm : Lx.mark s.data.toList (I + 2) = m) (h : I + 2 ≤ s.size) : (if m = true then I + 4 else I + 2) ≤ s.size := by
  cases m with
  | false => exact h
  | true =>
    rw [Lx.mark_eq] at hm
    split at hm
    · rw [if_pos rfl]; omega
    · cases hm
theorem Lq.limits (ps : List Pc) : (Lx.limits ps).2 = Lx.beyond ps ∧ (Lx.beyond ps = 0 → (Lx.limits ps).1 = ps) ∧ (¬ Lx.beyond ps = 0 → (Lx.limits ps).1 = []) := by
  unfold Lx.limits Lx.beyond
  by_cases h1 : Lx.long ps = true
  · rw [if_pos h1, if_pos h1]
    exact ⟨rfl, fun e => absurd e (by decide), fun _ => rfl⟩
  · rw [if_neg h1, if_neg h1]
    by_cases h2 : 1024 < ps.length
    · rw [if_pos h2, if_pos h2]
      exact ⟨rfl, fun e => absurd e (by decide), fun _ => rfl⟩
    · rw [if_neg h2, if_neg h2]
      exact ⟨rfl, fun _ => rfl, fun e => absurd rfl e⟩
/-- the answer behind the last piece -/
def Lq.res : Option (List Pc) → List Pc × Int
  | none => ([], 1300)
  | some ps => Lx.limits ps
theorem Lq.all (S : List UInt8) : Lx.all S = Lq.res (Lx.go (S.length + 1) S 0 false []) := by
  unfold Lx.all
  cases Lx.go (S.length + 1) S 0 false [] <;> rfl
theorem Sq.Row.nil (w : World) (g : Nat) : Sq.Row w g (.slice none 0 0) [] := World.ownsRow_nil _ _ _ _
set_option maxRecDepth 100000 in
set_option maxHeartbeats 4000000 in
theorem Lp.split (s : ByteArray) (w : World) (hT : Lp.T w) : Calls Tryz.prog 16 #[.string s] w fun e w' => ∃ v, e = .returned (.tuple #[v, .int .i64 (Lx.split s).2]) ∧ Pc.Lies w' (fun k => w.heap.size ≤ k ∧ k < w'.heap.size) (Lx.split s).1 v ∧ Below w.heap.size w w' := by
  by_cases hs : 65536 < s.size
  · have d1 : decide ((65536 : Int) < (s.size : Int)) = true := decide_eq_true (by omega)
    have e1 : Lx.split s = ([], 1301) := by unfold Lx.split; rw [if_pos hs]
    rw [e1]
    clear e1
    go_enter Tryz.func16, Tryz.ntmps16
    go_wp2_with fail
    go_ret2
    exact ⟨_, rfl, Pc.Lies.nil _ _, Below.refl _ _⟩
  · have d1 : decide ((65536 : Int) < (s.size : Int)) = false := decide_eq_false (by omega)
    have e1 : Lx.split s = Lx.all (Rd.lines s.data.toList) := by unfold Lx.split; rw [if_neg hs]
    rw [e1]
    have hm := hT
    obtain ⟨m0, hm0⟩ := hm
    have o1 := Tp.oneEnd s m0 w (by omega) hm0
    have hPd : (Rd.page s).data.toList = Rd.lines s.data.toList := rfl
    have hPz : (Rd.page s).size ≤ 65536 := by
      rw [← Wk.len_data, hPd]
      have := Lx.lines_len s.data.toList
      rw [Wk.len_data] at this
      omega
    rw [← hPd]
    generalize Rd.page s = P at *
    obtain ⟨G, hG⟩ : ∃ G, Lx.go (P.data.toList.length + 1) P.data.toList 0 false [] = G := ⟨_, rfl⟩
    obtain ⟨R, hR⟩ : ∃ R, Lx.all P.data.toList = R := ⟨_, rfl⟩
    rw [hR]
    have HR : Hid (R = Lq.res G) := by unfold Hid; rw [← hR, ← hG]; exact Lq.all _
    have HG := Lib.hid hG
    have HT := Lib.hid hT
    clear hR hG e1 hPd hm0 hT
    go_enter Tryz.func16, Tryz.ntmps16
    go_wp2_with (go_at_call 22; refine o1.mono ?_; rintro e w1 ⟨rfl, b1⟩; have B1 := Lib.hid b1; clear b1 o1)
    have hw1 := B1.out.size
    have hm1 : Sq.M (w1.alloc (.cells #[.string P, .int .i64 0, .slice none 0 0, .int .i64 0, .bool false] 75)) w1.heap.size := by
      have ht := (HT.out.on B1.out).on ((Below.refl w1.heap.size w1).alloc (Nat.le_refl _) (.cells #[.string P, .int .i64 0, .slice none 0 0, .int .i64 0, .bool false] 75))
      obtain ⟨m1, hm1⟩ := HT.out.on B1.out
      have := World.block_lt_of_cell? _ _ hm1
      exact ⟨by have : 0 < w1.heap.size := this; omega, ht⟩
    have hx1 : Bs.Box (w1.alloc (.cells #[.string P, .int .i64 0, .slice none 0 0, .int .i64 0, .bool false] 75)) w1.heap.size #[.string P, .int .i64 0, .slice none 0 0, .int .i64 0, .bool false] 75 := Bs.Box.new w1 _ _ _ rfl
    have B2 := Lib.hid (B1.out.alloc B1.out.size (.cells #[.string P, .int .i64 0, .slice none 0 0, .int .i64 0, .bool false] 75))
    generalize w1.alloc (.cells #[.string P, .int .i64 0, .slice none 0 0, .int .i64 0, .bool false] 75) = w2 at *
    generalize w1.heap.size = g at *
    have HA := Lib.hid (show Sq.At2 w2 w2 g P 0 (.slice none 0 0) 0 false [] from ⟨hx1, Sq.Row.nil _ _, Below.refl _ _⟩)
    have HM := Lib.hid hm1
    have hg0 := hm1.lt
    clear hx1 hm1 HT B1
    go_loopw [] (fun wr => ∃ (n p : Nat) (tr : Bool) (out : List Pc) (v : Value) (o : Int), p ≤ P.size ∧ P.size < n + p ∧ out.length ≤ p ∧ Hid (Sq.At2 w2 wr g P p v o tr out) ∧ Hid (Lx.go n P.data.toList p tr out = G)) (fun wr => P.size - (intOf ((wr.cell? ⟨g, 1, none⟩).getD undef)).toNat)
    case atStart => exact ⟨P.data.toList.length + 1, 0, false, [], .slice none 0 0, 0, Nat.zero_le _, by rw [Wk.len_data]; omega, Nat.le_refl _, HA, HG⟩
    case round =>
      clear HA HG
      obtain ⟨n, p, tr, out, v, o, hp, hn, ho, HA, HG⟩ := hrel
      have HMM : Hid ((intOf ((wr.cell? ⟨g, 1, none⟩).getD undef)).toNat = p) := by unfold Hid; rw [HA.out.at'.c1]; rfl
      obtain ⟨I, hI⟩ : ∃ I, Lx.text p (P.data.toList.drop p) = I := ⟨_, rfl⟩
      obtain ⟨m, hm⟩ : ∃ m, Lx.mark P.data.toList (I + 2) = m := ⟨_, rfl⟩
      obtain ⟨T, hT⟩ : ∃ T, Lq.cut m (Lq.base tr ((P.data.toList.drop p).take (I - p))) = T := ⟨_, rfl⟩
      have hIg := Lx.text_ge (P.data.toList.drop p) p
      rw [List.length_drop, Wk.len_data, hI] at hIg
      have rt := fun u q r k => Sq.readText out g P p v o tr u q r k hp hPz (by omega) I m T hI hm hT
      have MM := HM.out.then HA.out.low hg0
      have HMr := Lib.hid MM
      clear MM
      by_cases hl : I < P.size
      · have hop := Lx.text_open hI (by rw [Wk.len_data]; exact hp) (by rw [Wk.len_data]; exact hl)
        have hl2 := Lx.two_lt hop
        rw [Wk.len_data] at hl2
        have hk2 := Lq.mark_lt hm hl2
        rw [decide_eq_true hl, if_pos hl] at rt
        obtain ⟨K, hK⟩ : ∃ K, Lx.skip (if m = true then I + 4 else I + 2) (P.data.toList.drop (if m = true then I + 4 else I + 2)) = K := ⟨_, rfl⟩
        have hK2 := Lx.skip_ge (P.data.toList.drop (if m = true then I + 4 else I + 2)) (if m = true then I + 4 else I + 2)
        rw [hK, List.length_drop, Wk.len_data] at hK2
        have hk0 : I + 2 ≤ (if m = true then I + 4 else I + 2) := by split <;> omega
        have hone := Lx.one_len T p
        have hlen : (out ++ Lx.one T p).length ≤ p + 1 := by rw [List.length_append]; omega
        have ra := fun v' u q r k => Sq.readAction (out ++ Lx.one T p) g P (if m = true then I + 4 else I + 2) v' I tr u q r k hk2 hPz (by omega) K hK
        have hS := Lq.skip_mark hm
        rw [hK] at hS
        obtain ⟨r, hr⟩ : ∃ r, Lx.act P.data.toList K = r := ⟨_, rfl⟩
        rw [hr] at ra
        have hn0 : 0 < n := by omega
        have hpS : p < P.data.toList.length := by rw [Wk.len_data]; omega
        have hlS : I < P.data.toList.length := by rw [Wk.len_data]; exact hl
        have hTT : (if m = true then Lx.right (if tr = true then Lx.left ((P.data.toList.drop p).take (I - p)) else (P.data.toList.drop p).take (I - p)) else (if tr = true then Lx.left ((P.data.toList.drop p).take (I - p)) else (P.data.toList.drop p).take (I - p))) = T := hT
        cases r with
        | none =>
          have hG : none = G := (Lx.go_none hn0 hI hpS hlS hm hS hr).symm.trans HG.out
          subst hG
          have hR : R = ([], 1300) := HR.out
          subst hR
          clear HG hI hm hT hTT hS hr hK hop hone hlen hIg hK2 hk0 HR hl hl2 hlS
          generalize (if m = true then I + 4 else I + 2) = kk at *
          go_wp2_with (first | (go_at_call 23; refine (rt _ HA.out.at' HA.out.row HMr.out).mono ?_; rintro e w3 ⟨v3, rfl, a3⟩; have H3 := Lib.hid a3; have HM3 := Lib.hid (HMr.out.then a3.low hg0); clear a3 rt) | (go_at_call 24; refine (ra _ _ H3.out.at' H3.out.row HM3.out).mono ?_; rintro e w4 ⟨rfl, b4⟩; have B4 := Lib.hid (HA.out.low.trans (H3.out.low.trans b4)); clear b4 ra))
          go_ret2
          exact ⟨_, rfl, Pc.Lies.nil _ _, B2.out.trans (B4.out.mono hw1)⟩
        | some a =>
          obtain ⟨n, rfl⟩ : ∃ n', n = n' + 1 := ⟨n - 1, by omega⟩
          have hG := (Lx.go_some (n := n) (out := out) hI hpS hlS hm hS hr hTT).symm.trans HG.out
          have hf := Lx.act_fin (by rw [Wk.len_data]; omega) hr
          rw [Wk.len_data] at hf
          have HG2 := Lib.hid hG
          have hlen2 : (out ++ Lx.one T p ++ if a.com = true then ([] : List Pc) else [Pc.mk true a.text I]).length ≤ a.fin := by
            rw [List.length_append]
            split
            · simp only [List.length_nil]; omega
            · simp only [List.length_cons, List.length_nil]; omega
          clear HG hG hI hm hT hTT hS hr hK hop hone hlen hl hl2 hlS
          generalize (if m = true then I + 4 else I + 2) = kk at *
          go_wp2_with (first | (go_at_call 23; refine (rt _ HA.out.at' HA.out.row HMr.out).mono ?_; rintro e w3 ⟨v3, rfl, a3⟩; have H3 := Lib.hid a3; have HM3 := Lib.hid (HMr.out.then a3.low hg0); clear a3 rt) | (go_at_call 24; refine (ra _ _ H3.out.at' H3.out.row HM3.out).mono ?_; rintro e w4 ⟨v4, rfl, a4⟩; have H4 := Lib.hid a4; clear a4 ra))
          go_roundw
          case rel => exact ⟨n, a.fin, a.trims, _, v4, (I : Int), hf.2, (by omega), hlen2, Lib.hid (Sq.At2.mk H4.out.at' H4.out.row (HA.out.low.trans (H3.out.low.trans H4.out.low))), HG2⟩
          case measure => rw [HMM.out, H4.out.at'.c1]; simp [intOf]; omega
      · have hIe : I = P.size := by omega
        have hG : some (out ++ Lx.one T p) = G := by
          have hm0 : m = false := by rw [← hm, Lx.mark_eq, dif_neg (by omega)]
          rw [hm0] at hT
          exact (Lx.go_fin (by omega) hI (by rw [Wk.len_data]; omega) hT).symm.trans HG.out
        rw [decide_eq_false hl, if_neg hl] at rt
        subst hG
        have hR : R = Lx.limits (out ++ Lx.one T p) := HR.out
        obtain ⟨l1, l2, l3⟩ := Lq.limits (out ++ Lx.one T p)
        rw [← hR] at l1 l2 l3
        generalize out ++ Lx.one T p = O2 at *
        obtain ⟨R1, R2⟩ := R
        simp only at l1 l2 l3
        have be := fun v' R' u q => Sq.beyond O2 v' R' u q
        rw [← l1] at l2 l3 be
        clear HG hI hm hT hIg HR hl hIe hR l1
        by_cases hE : R2 = 0
        · have l4 := l2 hE
          clear l2 l3
          subst hE
          subst l4
          go_wp2_with (first | (go_at_call 23; refine (rt _ HA.out.at' HA.out.row HMr.out).mono ?_; rintro e w3 ⟨v3, rfl, a3⟩; have H3 := Lib.hid a3; clear a3 rt; have c2 := H3.out.at'.c2) | (go_at_call 25; refine (be _ _ _ (Pc.Lies.own H3.out.row)).mono ?_; rintro e w4 ⟨rfl, b4⟩; have H4 := Lib.hid (Sq.At2.then H3.out b4); clear b4 be; have d2 := H4.out.at'.c2))
          go_ret2
          exact ⟨v3, rfl, (Pc.Lies.own H4.out.row).on fun k hk => ⟨⟨by have := hk.1; omega, hk.2⟩, rfl⟩, B2.out.trans ((HA.out.low.trans H4.out.low).mono hw1)⟩
        · have l4 := l3 hE
          clear l2 l3
          subst l4
          have e0 : (R2 == 0) = false := beq_eq_false_iff_ne.2 hE
          have e1 : (R2 != 0) = true := by simp [hE]
          go_wp2_with (first | (go_at_call 23; refine (rt _ HA.out.at' HA.out.row HMr.out).mono ?_; rintro e w3 ⟨v3, rfl, a3⟩; have H3 := Lib.hid a3; clear a3 rt; have c2 := H3.out.at'.c2) | (go_at_call 25; refine (be _ _ _ (Pc.Lies.own H3.out.row)).mono ?_; rintro e w4 ⟨rfl, b4⟩; have B4 := Lib.hid (HA.out.low.trans (Sq.At2.then H3.out b4).low); clear b4 be))
          go_ret2
          exact ⟨_, rfl, Pc.Lies.nil _ _, B2.out.trans (B4.out.mono hw1)⟩
end Go.Proofs.YtjppobeomocgbaaGreatDoor

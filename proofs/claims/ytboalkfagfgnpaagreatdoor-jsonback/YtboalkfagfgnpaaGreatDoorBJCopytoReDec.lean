/-
  'append([]T{}, xs...)' at a step of a region that draws.
-/
import Derived.Test.YtboalkfagfgnpaaGreatDoorBVRowtoVCopyT
import Derived.Test.YtboalkfagfgnpaaGreatDoorBJRj
import Derived.Test.YtboalkfagfgnpaaGreatDoorBSize
import Derived.Test.YtboalkfagfgnpaaGreatDoorBJRetoNorm
import Derived.Test.YtboalkfagfgnpaaGreatDoorBVForm6toReText
import Derived.OwnWalk
import Derived.Lib.Hide
import Derived.CellFam
namespace Go.Proofs.YtboalkfagfgnpaaGreatDoor
open Go.RowKit
theorem Jb.wp_copy {w : World} {o : Oper} {a : Act} {K : Act → World → Prop} {Z : Exit → Act → World → Prop} (s x : Operand)
    (ho : o.op = .call { callee := .builtin .append, args := #[s, x], argTypes := #[24, 24] })
    {base : Nat} (g1 : Nat) (hs : a.eval s = .slice (some ⟨g1, 0, none⟩) 0 0) (hown : w.ownsRow base 9 1 (.slice (some ⟨g1, 0, none⟩) 0 0) 0 []) (n : Nat) (ks : Nat → ByteArray) (aa : Option Addr) (ad : Nat)
    (hx : a.eval x = .slice aa n ad) (hk : ∀ j u, (Vc.texts n ks)[j]? = some u → ∃ b, aa = some b ∧ w.cell? (b.add j) = some u)
    (hn : n ≤ 1048576) (hbase : base ≤ w.heap.size)
    (h : ∀ v' w', w'.ownsRow base 9 1 v' n (Vc.texts n ks) → w.grownBy w' (some g1) → K (a.put o.dst v') w') : o.wp Tryz.prog a w K Z := by
  obtain ⟨iS, hiS, hzS, hsS, hbS⟩ := info_parts Vc.infoS
  by_cases h0 : n = 0
  · subst h0
    have hrun := Vc.run0' Tryz.prog w 24 o.type 9 iS Tryz.underlying24 hiS g1 aa ad
    have h2 := h (.slice (some ⟨g1, 0, none⟩) 0 0) w hown ⟨rfl, rfl, rfl, Nat.le_refl _, fun _ _ _ => rfl⟩
    unfold Oper.wp execOp
    simp only [ho, resolve, invoke, builtin, Sem.run_bind, Sem.run_pure, Result.andThen_ok, List.map_toArray, List.map_cons, List.map_nil, hs, hx, hrun]
    exact h2
  · have hp : 0 < (Vc.texts n ks).length := by rw [Vc.texts_length]; omega
    obtain ⟨b, rfl, _⟩ := hk 0 _ (List.getElem?_eq_getElem hp)
    have hnews : ∀ j u, (Vc.texts n ks)[j]? = some u → w.cell? (b.add j) = some u := fun j u hj => by
      obtain ⟨b', e', hc⟩ := hk j u hj
      cases e'
      exact hc
    obtain ⟨v', w', hr, h2, h3, h4⟩ := run_append_own (P := Tryz.prog) w base 24 o.type 9 iS _ 1 16 Tryz.underlying24 hiS hzS hsS hbS rfl (by decide) (.slice (some ⟨g1, 0, none⟩) 0 0) 0 [] hown b n ad (Vc.texts n ks) (Vc.texts_length n ks) hnews (Vc.texts_one n ks) (by unfold maxLen; omega) (by omega) hbase
    unfold Oper.wp execOp
    simp only [ho, resolve, invoke, builtin, Sem.run_bind, Sem.run_pure, Result.andThen_ok, List.map_toArray, List.map_cons, List.map_nil, hs, hx, hr]
    rw [Nat.zero_add, List.nil_append] at h2
    exact h v' w' h2 h3
/-- at a step of a region that draws -/
theorem Jb.step_copy {w : World} {ops : Array Oper} {o : Oper} {a : Act} {K : Act → World → Prop} {E : Prop} {Z : Exit → Act → World → Prop} (hgd : o.guard = none) (s x : Operand)
    (ho : o.op = .call { callee := .builtin .append, args := #[s, x], argTypes := #[24, 24] })
    {base : Nat} (g1 : Nat) (hs : a.eval s = .slice (some ⟨g1, 0, none⟩) 0 0) (hown : w.ownsRow base 9 1 (.slice (some ⟨g1, 0, none⟩) 0 0) 0 []) (n : Nat) (ks : Nat → ByteArray) (aa : Option Addr) (ad : Nat)
    (hx : a.eval x = .slice aa n ad) (hk : ∀ j u, (Vc.texts n ks)[j]? = some u → ∃ b, aa = some b ∧ w.cell? (b.add j) = some u)
    (hn : n ≤ 1048576) (hbase : base ≤ w.heap.size)
    (h : ∀ v' w', w'.ownsRow base 9 1 v' n (Vc.texts n ks) → w.grownBy w' (some g1) → base ≤ g1 ∧ g1 < w.heap.size → K (a.put o.dst v') w') :
    if Region.wanted o (yielded ops a.tmps) = true then Oper.wp Tryz.prog o a w K Z else E := by
  have hw : Region.wanted o (yielded ops a.tmps) = true := by simp [Region.wanted, hgd]
  rw [if_pos hw]
  exact Jb.wp_copy s x ho g1 hs hown n ks aa ad hx hk hn hbase fun v' w' r g => h v' w' r g (hown.lt g1 rfl)
theorem Jb.empty (X : World) (base g : Nat) (hg : g = X.heap.size) (hb : base ≤ X.heap.size) : (X.alloc (.cells #[] 9)).ownsRow base 9 1 (.slice (some ⟨g, 0, none⟩) 0 0) 0 [] := by
  subst hg
  exact Vc.empty X base hb
theorem Jb.row_on {u u' : World} {base : Nat} {ty : TypeId} {sz : Nat} {v : Value} {n : Nat} {xs : List Value} (h : u.ownsRow base ty sz v n xs) (hb : Below u.heap.size u u') : u'.ownsRow base ty sz v n xs :=
  Jr.own_kept h fun k hk => hb.block k (h.lt k hk).2
theorem Jb.row_alloc {u : World} {base : Nat} {ty : TypeId} {sz : Nat} {v : Value} {n : Nat} {xs : List Value} (h : u.ownsRow base ty sz v n xs) (o : Obj) : (u.alloc o).ownsRow base ty sz v n xs :=
  Jr.own_kept h fun k hk => Below.heap_alloc _ _ _ (h.lt k hk).2
theorem Jb.row_drew {u : World} {base : Nat} {ty : TypeId} {sz : Nat} {v : Value} {n : Nat} {xs : List Value} (h : u.ownsRow base ty sz v n xs) : u.drew.ownsRow base ty sz v n xs :=
  Jr.own_kept h fun _ _ => rfl
theorem Jb.has_grown {u u' : World} {g g1 : Nat} {o : Obj} (h : Vm.Has u g o) (hg : u.grownBy u' (some g1)) (hne : g ≠ g1) : Vm.Has u' g o := (hg.block g h.lt (fun q => hne (by injection q))).trans h
theorem Jb.has_drew {u : World} {g : Nat} {o : Obj} (h : Vm.Has u g o) : Vm.Has u.drew g o := h
theorem Jb.has {p q : Prop} (h : p) (k : p → q) : q := k h
end Go.Proofs.YtboalkfagfgnpaaGreatDoor
/-
  THE WALK of stoleref1.Norm: what the document's own answer gives is 'Pl.normL' too (texts of up to 2^45 bytes).
-/
namespace Go.Proofs.YtboalkfagfgnpaaGreatDoor
open Go.RowKit

/-- 'string(out)' of bytes that the call owns -/
theorem Rn.conv {wr : World} {B : Nat} {v : Value} {acc : List UInt8} (h : wr.ownsRow B 5 1 v acc.length (Lib.byteCells acc)) :
    (convert 44 9 v).run Tryz.prog wr = .ok (.string ⟨acc.toArray⟩) wr := by
  rcases h.2 with ⟨rfl, h0⟩ | ⟨g, cap, cur, rfl, _⟩
  · have e : acc = [] := List.eq_nil_of_length_eq_zero h0
    subst e
    rw [run_convert_bytes_string wr 44 9 5 none 0 0 Tryz.underlying44 Tryz.underlying5 Tryz.underlying9]
    simp [Conv.bytesToString]
    rfl
  · refine run_convert_bytes_back (P := Tryz.prog) wr 44 9 5 ⟨g, 0, none⟩ cap acc Tryz.underlying44 Tryz.underlying5 Tryz.underlying9 (fun j hj => ?_)
    have e : (⟨g, 0, none⟩ : Addr).add j = ⟨g, j, none⟩ := by rw [Addr.add_lit, Nat.zero_add]
    rw [e, h.cellAt j (by omega)]
    simp [Lib.byteCells, hj]
theorem Rn.below {w wr w' : World} {v : Value} {n : Nat} {xs : List Value} (hb : Below w.heap.size w wr) (hown : wr.ownsRow w.heap.size 5 1 v n xs) (hg : wr.grownBy w' v.ownBlock) : Below w.heap.size w w' :=
  hb.grown hg hb.size (fun k hk => (hown.lt k hk).1)
theorem Rn.c1 (W : World) : ∀ (j : Nat) (u : Value), [Value.int .u8 239, Value.int .u8 191, Value.int .u8 189][j]? = some u → (W.alloc (.cells #[.int .u8 239, .int .u8 191, .int .u8 189] 5)).cell? ((⟨W.heap.size, 0, none⟩ : Addr).add j) = some u := by
  intro j u h
  rw [Addr.add_lit, Nat.zero_add]
  have := World.cell?_alloc_mark W #[.int .u8 239, .int .u8 191, .int .u8 189] 5 (0, 0) j
  rw [this]
  simpa using h
theorem Rn.c2 : ∀ u ∈ [Value.int .u8 239, Value.int .u8 191, Value.int .u8 189], u.oneCell' = true := by
  intro u hu
  simp at hu
  rcases hu with rfl | rfl | rfl <;> rfl
theorem Rn.bad_rel {w wr w1 : World} {o v' : Value} {acc : List UInt8} {X : Obj} (hb : Below w.heap.size w wr) (hown : wr.ownsRow w.heap.size 5 1 o acc.length (Lib.byteCells acc))
    (hown' : w1.ownsRow w.heap.size 5 1 v' (acc.length + 3) (Lib.byteCells acc ++ [.int .u8 239, .int .u8 191, .int .u8 189])) (hg : (wr.alloc X).grownBy w1 o.ownBlock) :
    w1.ownsRow w.heap.size 5 1 v' (acc ++ Pl.fffd).length (Lib.byteCells (acc ++ Pl.fffd)) ∧ Below w.heap.size w w1 := by
  refine ⟨?_, (hb.alloc hb.size X).grown hg (by have := hb.size; simp; omega) (fun k hk => (hown.lt k hk).1)⟩
  rw [Lib.byteCells_append, List.length_append]
  exact hown'
theorem Rn.good_rel {w wr w1 : World} {o v' : Value} {acc l : List UInt8} {part : ByteArray} {n : Nat} (hsz : part.size = n) (hb : Below w.heap.size w wr) (hown : wr.ownsRow w.heap.size 5 1 o acc.length (Lib.byteCells acc)) (hp : part.data.toList = l)
    (hown' : w1.ownsRow w.heap.size 5 1 v' (acc.length + n) (Lib.byteCells acc ++ Lib.strCells part)) (hg : wr.grownBy w1 o.ownBlock) :
    w1.ownsRow w.heap.size 5 1 v' (acc ++ l).length (Lib.byteCells (acc ++ l)) ∧ Below w.heap.size w w1 := by
  refine ⟨?_, Rn.below hb hown hg⟩
  rw [Lib.byteCells_append, List.length_append, ← hp, Wk.len_data, hsz]
  exact hown'

set_option maxHeartbeats 2000000 in
theorem Sz.norm (s : ByteArray) (w : World) (hs : s.size ≤ 35184372088832) :
    Calls Tryz.prog 30 #[.string s] w fun e w' => e = .returned (.string ⟨(Pl.normL s.data.toList).toArray⟩) ∧ Below w.heap.size w w' := by
  obtain ⟨i0, hi, hz0, hz1, hz2⟩ := info_parts Wk.info5
  go_enter Tryz.func30, Tryz.ntmps30
  go_wp2
  go_loopw [3, 4] (fun o i wr => ∃ (k : Nat) (acc : List UInt8), k ≤ s.size ∧ i = .int .i64 k ∧ wr.ownsRow w.heap.size 5 1 o acc.length (Lib.byteCells acc) ∧ Below w.heap.size w wr ∧ Hid (acc ++ Pl.normL (s.data.toList.drop k) = Pl.normL s.data.toList) ∧ acc.length ≤ 3 * k) (fun _ i _ => s.size - (intOf i).toNat)
  case atStart => exact ⟨0, [], Nat.zero_le _, rfl, World.ownsRow_nil _ _ _ _, Below.refl _ _, rfl, Nat.le_refl _⟩
  case round =>
    obtain ⟨k, acc, hk, rfl, hown, hb, hn, hal⟩ := hrel
    have hsz := hb.size
    by_cases hlt : k < s.size
    · have hle := Pl.sgn_le (s.data.toList.drop k)
      rw [List.length_drop, Wk.len_data] at hle
      have h0 := (Sz.nb_at s k 0 (by omega)).symm
      have hboth := Sz.both (s.data.toList.drop k)
      have c := Sz.size s k hlt (by omega) wr
      have hsame := Sz.same (s.data.toList.drop k)
      have hnb := Pl.normL_bad _ (Wk.drop_ne s k hlt)
      have hns := Pl.normL_sign (s.data.toList.drop k)
      rw [List.drop_drop] at hns hnb
      have e0 : s[k].toNat = Pl.nb (s.data.toList.drop k) 0 := h0
      generalize Pl.nb (s.data.toList.drop k) 0 = v at *
      generalize Pl.siz (s.data.toList.drop k) = z at *
      generalize Pl.sgn (s.data.toList.drop k) = m at *
      have HNB : Hid (m = 0 → Pl.normL (s.data.toList.drop k) = Pl.fffd ++ Pl.normL (s.data.toList.drop (k + 1))) := hnb
      have HNS : Hid (m ≠ 0 → Pl.normL (s.data.toList.drop k) = (s.data.toList.drop k).take m ++ Pl.normL (s.data.toList.drop (k + m))) := hns
      have HB : Hid ((z = 0 ∨ v = 0) ↔ m = 0) := hboth
      have HS : Hid (m ≠ 0 → z = m) := hsame
      clear hnb hns hboth hsame h0
      by_cases m0 : m = 0
      · have hzv := HB.out.2 m0
        by_cases z0 : z = 0
        · have hz : ((z : Int) == 0) = true := beq_iff_eq.2 (by omega)
          go_wp2_with (first
            | (go_at_call 55; refine c.mono ?_; rintro e w' ⟨rfl, rfl⟩)
            | (at_builtin; refine wpList_append_own _ rfl _ _ 44 rfl w.heap.size 5 i0 (.int .u8 0) 1 1 Tryz.underlying44 hi hz0 hz1 hz2 rfl (by decide) _ _ _ rfl (hown.alloc _) ⟨_, 0, none⟩ 3 3 [.int .u8 239, .int .u8 191, .int .u8 189] rfl rfl (Rn.c1 _) Rn.c2 (by unfold maxLen; omega) (by omega) (by simp; omega) ?_))
          intro v' w1 hown' hgrow _
          have R := Rn.bad_rel hb hown hown' hgrow
          have HR : Hid ((acc ++ Pl.fffd) ++ Pl.normL (s.data.toList.drop (k + 1)) = Pl.normL s.data.toList) := by
            show _ = _
            rw [← hn.out, HNB.out m0, List.append_assoc]
          clear hown' hgrow hown c hb hn HNB HNS HB HS
          go_wp2
          go_roundw
          case rel => exact ⟨k + 1, acc ++ Pl.fffd, by omega, by go_num, R.1, R.2, HR, by simp [Pl.fffd]; omega⟩
          case measure => simp [intOf]; omega
        · have hz : ((z : Int) == 0) = false := beq_eq_false_iff_ne.2 (by omega)
          have hv : ((v : Int) == 0) = true := beq_iff_eq.2 (by omega)
          go_wp2_with (first
            | (go_at_call 55; refine c.mono ?_; rintro e w' ⟨rfl, rfl⟩)
            | (at_builtin; refine wpList_append_own _ rfl _ _ 44 rfl w.heap.size 5 i0 (.int .u8 0) 1 1 Tryz.underlying44 hi hz0 hz1 hz2 rfl (by decide) _ _ _ rfl (hown.alloc _) ⟨_, 0, none⟩ 3 3 [.int .u8 239, .int .u8 191, .int .u8 189] rfl rfl (Rn.c1 _) Rn.c2 (by unfold maxLen; omega) (by omega) (by simp; omega) ?_))
          intro v' w1 hown' hgrow _
          have R := Rn.bad_rel hb hown hown' hgrow
          have HR : Hid ((acc ++ Pl.fffd) ++ Pl.normL (s.data.toList.drop (k + 1)) = Pl.normL s.data.toList) := by
            show _ = _
            rw [← hn.out, HNB.out m0, List.append_assoc]
          clear hown' hgrow hown c hb hn HNB HNS HB HS
          go_wp2
          go_roundw
          case rel => exact ⟨k + 1, acc ++ Pl.fffd, by omega, by go_num, R.1, R.2, HR, by simp [Pl.fffd]; omega⟩
          case measure => simp [intOf]; omega
      · have hzm := HS.out m0
        have hv0 : ¬ v = 0 := fun e => m0 (HB.out.1 (.inr e))
        subst hzm
        have hz : ((z : Int) == 0) = false := beq_eq_false_iff_ne.2 (by omega)
        have hv : ((v : Int) == 0) = false := beq_eq_false_iff_ne.2 (by omega)
        have hcut : ∀ u : World, (Instr.slice 9 (.string s) (some (.int .i64 (k : Int))) (some (.int .i64 ((k : Int) + (z : Int)))) none).run Tryz.prog u = .ok (.string (s.extract k (k + z))) u := fun u => by
          have h := Wk.run_cut u s (k : Int) ((k : Int) + (z : Int)) (by omega) (by omega) (by omega)
          rwa [show ((k : Int) + (z : Int)).toNat = k + z by omega, Int.toNat_natCast] at h
        have hps := Wk.part_size s k z (by omega)
        have hpd := Wk.part_data s k z
        generalize s.extract k (k + z) = part at hcut hps hpd
        have HPD : Hid (part.data.toList = (s.data.toList.drop k).take z) := hpd
        clear hpd
        go_wp2_with (first
          | (go_at_call 55; refine c.mono ?_; rintro e w' ⟨rfl, rfl⟩)
          | (at_builtin; refine Lib.wpList_append_own_string _ rfl _ _ 44 9 rfl w.heap.size 5 i0 Tryz.underlying44 Tryz.underlying9 hi hz0 hz1 hz2 _ _ _ rfl hown part rfl (by unfold maxLen; omega) (by omega) (by omega) ?_))
        intro v' w1 hown' hgrow _
        have R := Rn.good_rel hps hb hown HPD.out hown' hgrow
        have HR : Hid ((acc ++ (s.data.toList.drop k).take z) ++ Pl.normL (s.data.toList.drop (k + z)) = Pl.normL s.data.toList) := by
          show _ = _
          rw [← hn.out, HNS.out m0, List.append_assoc]
        clear hown' hgrow hown c hb hn HNB HNS HB HS HPD hcut
        go_wp2
        go_roundw
        case rel => exact ⟨k + z, acc ++ (s.data.toList.drop k).take z, by omega, by go_num, R.1, R.2, HR, by simp; omega⟩
        case measure => simp [intOf]; omega
    · have hke : k = s.size := by omega
      have hconv := Rn.conv hown
      have HE : Hid (acc = Pl.normL s.data.toList) := by
        have := hn.out
        rw [hke, List.drop_of_length_le (by rw [Wk.len_data]; exact Nat.le_refl _), Pl.normL_nil, List.append_nil] at this
        exact this
      clear hown hn hke
      go_wp2
      go_ret
      exact ⟨Wk.ret_str HE.out, hb⟩
end Go.Proofs.YtboalkfagfgnpaaGreatDoor
/-
  THE WALK of stoleref0.Decimal at a number that is not negative: it returns its digits, and turns nothing that was there.
-/
namespace Go.Proofs.YtboalkfagfgnpaaGreatDoor
open Go.RowKit

theorem Dm.info5 : (Tryz.prog.info? 5).map (fun i => (i.zero, i.size, i.bytes)) = some (some (.int .u8 0), 1, 1) := by kernel_rfl
/-- 'string(out)' of bytes that the call owns -/
theorem Dm.conv {wr : World} {B : Nat} {v : Value} {acc : List UInt8} (h : wr.ownsRow B 5 1 v acc.length (Lib.byteCells acc)) :
    (convert 44 9 v).run Tryz.prog wr = .ok (.string ⟨acc.toArray⟩) wr := by
  rcases h.2 with ⟨rfl, h0⟩ | ⟨g, cap, cur, rfl, _⟩
  · have e : acc = [] := List.eq_nil_of_length_eq_zero h0
    subst e
    rw [run_convert_bytes_string wr 44 9 5 none 0 0 Tryz.underlying44 Tryz.underlying5 Tryz.underlying9]
    simp [Conv.bytesToString]
    rfl
  · refine run_convert_bytes_back (P := Tryz.prog) wr 44 9 5 ⟨g, 0, none⟩ cap acc Tryz.underlying44 Tryz.underlying5 Tryz.underlying9 (fun j hj => ?_)
    have e : (⟨g, 0, none⟩ : Addr).add j = ⟨g, j, none⟩ := by rw [Addr.add_lit, Nat.zero_add]
    rw [e, h.cellAt j (by omega)]
    simp [Lib.byteCells, hj]

/-- a number that is written so far: z stands ahead of the digits -/
structure Dm.Half (k z : Nat) (l : List UInt8) : Prop where
  first : l = [] → z = k
  later : l ≠ [] → Lib.decDigits k = (if z = 0 then [] else Lib.decDigits z) ++ l
theorem Dm.Half.step {k z : Nat} {l : List UInt8} (h : Dm.Half k z l) (hz : 0 < z ∨ l = []) (c : UInt8) (hc : c.toNat = 48 + z % 10) : Dm.Half k (z / 10) (c :: l) := by
  have e : (if z / 10 = 0 then [] else Lib.decDigits (z / 10)) ++ [c] = Lib.decDigits z := by
    have hc' : c = UInt8.ofNat (48 + z % 10) := by
      apply UInt8.toNat_inj.1
      rw [hc, UInt8.toNat_ofNat']
      omega
    by_cases h1 : z < 10
    · rw [if_pos (by omega), Lib.decDigits_one h1, hc', Nat.mod_eq_of_lt h1]; rfl
    · conv => rhs; rw [Lib.decDigits, dif_neg h1]
      rw [if_neg (by omega), hc']
  refine ⟨(fun h => by cases h), fun _ => ?_⟩
  rw [show c :: l = [c] ++ l by rfl, ← List.append_assoc, e]
  by_cases hl : l = []
  · rw [h.first hl, hl, List.append_nil]
  · rw [h.later hl, if_neg]
    rcases hz with hz | hz
    · omega
    · exact absurd hz hl
theorem Dm.Half.len {k z : Nat} {l : List UInt8} (h : Dm.Half k z l) (hk : k < 18446744073709551616) : l.length ≤ 20 := by
  by_cases hl : l = []
  · rw [hl]; simp
  · have h1 := Rt.dec_le k hk
    rw [h.later hl, List.length_append] at h1
    omega
theorem Dm.Half.fin {k : Nat} {l : List UInt8} (h : Dm.Half k 0 l) (hl : l ≠ []) : Lib.decDigits k = l := by
  rw [h.later hl, if_pos rfl, List.nil_append]

def Dm.len : Value → Nat
  | .slice _ n _ => n
  | _ => 0
theorem Dm.len_own {w : World} {B : Nat} {v : Value} {n : Nat} {xs : List Value} (h : w.ownsRow B 5 1 v n xs) : Dm.len v = n := by
  rcases h.2 with ⟨rfl, h0⟩ | ⟨g, cap, cur, rfl, _⟩
  · exact h0.symm
  · rfl
theorem Dm.one (W : World) (B : Nat) (x : Int) (hB : B ≤ W.heap.size) : (W.alloc (.cells #[.int .u8 x] 5)).ownsRow B 5 1 (.slice (some ⟨W.heap.size, 0, none⟩) 1 1) 1 [.int .u8 x] :=
  World.ownsRow_lit (e := 5) (size := 1) W #[.int .u8 x] 1 hB (by unfold maxLen; omega) rfl
theorem Dm.ones (l : List UInt8) : ∀ u ∈ Lib.byteCells l, u.oneCell' = true := by
  intro u hu
  simp only [Lib.byteCells, List.mem_map] at hu
  obtain ⟨c, _, rfl⟩ := hu
  rfl
theorem Dm.rel {w wr w1 : World} {v' : Value} {acc : List UInt8} {X : Obj} {c : UInt8} (hb : Below w.heap.size w wr)
    (hown' : w1.ownsRow w.heap.size 5 1 v' (1 + acc.length) ([.int .u8 c.toNat] ++ Lib.byteCells acc)) (hg : (wr.alloc X).grownBy w1 (some wr.heap.size)) :
    w1.ownsRow w.heap.size 5 1 v' (c :: acc).length (Lib.byteCells (c :: acc)) ∧ Below w.heap.size w w1 := by
  refine ⟨?_, (hb.alloc hb.size X).grown hg (by have := hb.size; simp; omega) (fun k hk => by cases hk; exact hb.size)⟩
  rw [List.length_cons, Nat.add_comm]
  exact hown'

set_option maxRecDepth 100000 in
set_option maxHeartbeats 2000000 in
theorem Dm.decimal (k : Nat) (hk : k < 9223372036854775808) (w : World) :
    Calls Tryz.prog 58 #[.int .i64 (k : Int)] w fun e w' => e = .returned (.string ⟨(Lib.decDigits k).toArray⟩) ∧ Below w.heap.size w w' := by
  obtain ⟨i0, hi, hz0, hz1, hz2⟩ := info_parts Dm.info5
  have k0 : decide ((k : Int) < 0) = false := decide_eq_false (by omega)
  go_enter Tryz.func58, Tryz.ntmps58
  go_wp2
  go_loopw [3, 4] (fun y o wr => ∃ (z : Nat) (acc : List UInt8), y = .int .u64 z ∧ z ≤ k ∧ wr.ownsRow w.heap.size 5 1 o acc.length (Lib.byteCells acc) ∧ Below w.heap.size w wr ∧ Hid (Dm.Half k z acc) ∧ (acc = [] → o = .slice none 0 0)) (fun y o _ => 2 * (intOf y).toNat + (if Dm.len o = 0 then 1 else 0))
  case atStart => exact ⟨k, [], by go_num, Nat.le_refl _, World.ownsRow_nil _ _ _ _, Below.refl _ _, ⟨fun _ => rfl, fun h => absurd rfl h⟩, fun _ => rfl⟩
  case round =>
    obtain ⟨z, acc, rfl, hzk, hown, hb, HH, hnil⟩ := hrel
    have hsr := hb.size
    obtain ⟨c, hc⟩ : ∃ c : UInt8, c.toNat = 48 + z % 10 := ⟨UInt8.ofNat (48 + z % 10), by rw [UInt8.toNat_ofNat']; omega⟩
    have HC := Lib.hid hc
    have hcI : 48 + (z : Int) % 10 = (c.toNat : Int) := by omega
    clear hc
    rcases hown.2 with ⟨rfl, h0⟩ | ⟨g, cap, cur, rfl, _⟩
    · have hacc : acc = [] := List.eq_nil_of_length_eq_zero h0
      subst hacc
      have HS : Hid (Dm.Half k (z / 10) [c]) := HH.out.step (.inr rfl) c HC.out
      have R := Dm.one wr w.heap.size c.toNat hsr
      have hb' := hb.alloc hb.size (.cells #[.int .u8 c.toNat] 5)
      clear h0 hnil HC HH hown hb
      by_cases hz : 0 < z
      · go_wp2_with fail
        refine ⟨⟨z / 10, [c], by go_num, by omega, R, hb', HS, fun h => by cases h⟩, ?_⟩
        simp [intOf, Dm.len]
        omega
      · go_wp2_with fail
        refine ⟨⟨z / 10, [c], by go_num, by omega, R, hb', HS, fun h => by cases h⟩, ?_⟩
        simp [intOf, Dm.len]
        omega
    · have hne : acc ≠ [] := fun h => by have := hnil h; cases this
      have hpos : 0 < acc.length := List.length_pos_iff.2 hne
      have hlen := HH.out.len (by omega)
      clear hnil
      by_cases hz : 0 < z
      · have HS : Hid (Dm.Half k (z / 10) (c :: acc)) := HH.out.step (.inl hz) c HC.out
        have hl := Dm.len_own hown
        clear HC HH
        go_wp2_with (at_builtin; refine wpList_append_own _ rfl _ _ 44 rfl w.heap.size 5 i0 (.int .u8 0) 1 1 Tryz.underlying44 hi hz0 hz1 hz2 rfl (by decide) _ _ _ rfl (Dm.one wr w.heap.size c.toNat hsr) ⟨g, 0, none⟩ acc.length cap (Lib.byteCells acc) rfl (by rw [Lib.byteCells_length]; omega) ((hown.alloc _).cells rfl) (Dm.ones acc) (by unfold maxLen; omega) (by omega) (by simp; omega) ?_)
        intro v' w1 hown' hgrow _
        have R := Dm.rel (c := c) hb hown' hgrow
        have hl' := Dm.len_own R.1
        clear hown' hgrow hown hb
        go_wp2_with fail
        refine ⟨⟨z / 10, c :: acc, by go_num, by omega, R.1, R.2, HS, fun h => by cases h⟩, ?_⟩
        rw [hl', hl]
        simp [intOf]
        omega
      · have hz0' : z = 0 := by omega
        subst hz0'
        have HF : Hid (Lib.decDigits k = acc) := HH.out.fin hne
        have hl0 : ((acc.length : Int) == 0) = false := beq_eq_false_iff_ne.2 (by omega)
        have hconv := Dm.conv hown
        clear HH HC hown hcI
        go_wp2
        go_ret
        refine ⟨?_, hb⟩
        rw [HF.out]
        rfl
end Go.Proofs.YtboalkfagfgnpaaGreatDoor

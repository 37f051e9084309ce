/-
  THE WALK of stolelaw9.UrlSchemes.
-/
import Derived.Test.YtfjhbhddfpkebaaDoorQTo
import Derived.Test.YtfjhbhddfpkebaaDoorUSch
namespace Go.Proofs.YtfjhbhddfpkebaaDoor
open Go.RowKit
theorem Us.and7 (n : Int) : Go.bits .and .i64 n 7 = n % 8 := by
  have hm : (BitVec.ofInt 64 7).toNat = 2 ^ 3 - 1 := by decide
  have key : (BitVec.ofInt 64 n &&& BitVec.ofInt 64 7).toNat = (n % ((2 ^ 64 : Nat) : Int)).toNat % 2 ^ 3 := by
    rw [BitVec.toNat_and, BitVec.toNat_ofInt, hm, Nat.and_two_pow_sub_one_eq_mod]
  show IntKind.i64.wrap ((BitVec.ofInt 64 n &&& BitVec.ofInt 64 7).toNat : Nat) = n % 8
  rw [key, IntKind.wrap_i64]
  omega
theorem Us.and1 (n : Int) : Go.bits .and .i64 n 1 = n % 2 := by
  have hm : (BitVec.ofInt 64 1).toNat = 2 ^ 1 - 1 := by decide
  have key : (BitVec.ofInt 64 n &&& BitVec.ofInt 64 1).toNat = (n % ((2 ^ 64 : Nat) : Int)).toNat % 2 ^ 1 := by
    rw [BitVec.toNat_and, BitVec.toNat_ofInt, hm, Nat.and_two_pow_sub_one_eq_mod]
  show IntKind.i64.wrap ((BitVec.ofInt 64 n &&& BitVec.ofInt 64 1).toNat : Nat) = n % 2
  rw [key, IntKind.wrap_i64]
  omega
/-- a bit -/
theorem Us.bit (n : Int) : Go.bits .and .i64 n 1 = 0 ∨ Go.bits .and .i64 n 1 = 1 := by
  rw [Us.and1]
  omega
theorem Us.conv1 (W : World) (c : UInt8) : (convert 28 9 (.slice (some ⟨W.heap.size, 0, none⟩) 1 1)).run Tryd.prog (W.alloc (.cells #[.int .u8 (c.toNat : Int)] 5)) = .ok (.string ⟨#[c]⟩) (W.alloc (.cells #[.int .u8 (c.toNat : Int)] 5)) :=
  run_convert_bytes_back (P := Tryd.prog) (W.alloc (.cells #[.int .u8 (c.toNat : Int)] 5)) 28 9 5 ⟨W.heap.size, 0, none⟩ 1 [c] Tryd.underlying28 Tryd.underlying5 Tryd.underlying9 (fun j hj => by
    have hj : j = 0 := by simpa using hj
    subst hj
    rw [Addr.add_lit, Nat.zero_add]
    exact Rb.new W #[.int .u8 (c.toNat : Int)] 5 _ rfl 0 _ rfl)
theorem Us.blank {S : ByteArray} {c : UInt8} (h : ∀ d ∈ S.data.toList, d.toNat ≤ 32 ∧ d ≠ 0) (hc : c.toNat ≤ 32 ∧ c ≠ 0) : ∀ d ∈ (S ++ ⟨#[c]⟩).data.toList, d.toNat ≤ 32 ∧ d ≠ 0 := by
  intro d hd
  rw [Wk.cat2_data, List.mem_append] at hd
  rcases hd with q | q
  · exact h d q
  · rw [show d = c from by simpa using q]
    exact hc
theorem Us.nothing : Hid (∀ d ∈ (⟨#[]⟩ : ByteArray).data.toList, d.toNat ≤ 32 ∧ d ≠ 0) := fun d hd => by cases hd
theorem Us.more (S : ByteArray) (c : UInt8) : (S ++ ⟨#[c]⟩).size = S.size + 1 := by
  rw [Wk.cat2_size]
  rfl
/-- a name that is told -/
structure Us.Name (l : List UInt8) : Prop where
  ne : l ≠ []
  all : ∀ d ∈ l, (Ug.sign d && decide (Pl.lowB d = d)) = true
  letter : Pl.letter (l.getD 0 0) = true
  size : l.length ≤ 10
def Us.names : List ByteArray := [⟨#[104, 116, 116, 112]⟩, ⟨#[104, 116, 116, 112, 115]⟩, ⟨#[109, 97, 105, 108, 116, 111]⟩, ⟨#[116, 101, 108]⟩, ⟨#[106, 97, 118, 97, 115, 99, 114, 105, 112, 116]⟩, ⟨#[100, 97, 116, 97]⟩, ⟨#[97]⟩, ⟨#[120, 45, 121, 46, 122, 43, 49]⟩]
theorem Us.named (q : Nat) (hq : q < 8) : ∃ nm : ByteArray, (∀ h : q < ([Value.string ⟨#[104, 116, 116, 112]⟩, Value.string ⟨#[104, 116, 116, 112, 115]⟩, Value.string ⟨#[109, 97, 105, 108, 116, 111]⟩, Value.string ⟨#[116, 101, 108]⟩, Value.string ⟨#[106, 97, 118, 97, 115, 99, 114, 105, 112, 116]⟩, Value.string ⟨#[100, 97, 116, 97]⟩, Value.string ⟨#[97]⟩, Value.string ⟨#[120, 45, 121, 46, 122, 43, 49]⟩]).length, [Value.string ⟨#[104, 116, 116, 112]⟩, Value.string ⟨#[104, 116, 116, 112, 115]⟩, Value.string ⟨#[109, 97, 105, 108, 116, 111]⟩, Value.string ⟨#[116, 101, 108]⟩, Value.string ⟨#[106, 97, 118, 97, 115, 99, 114, 105, 112, 116]⟩, Value.string ⟨#[100, 97, 116, 97]⟩, Value.string ⟨#[97]⟩, Value.string ⟨#[120, 45, 121, 46, 122, 43, 49]⟩][q]'h = .string nm) ∧ Us.Name nm.data.toList := by
  have h8 : q = 0 ∨ q = 1 ∨ q = 2 ∨ q = 3 ∨ q = 4 ∨ q = 5 ∨ q = 6 ∨ q = 7 := by omega
  rcases h8 with rfl | rfl | rfl | rfl | rfl | rfl | rfl | rfl
  all_goals exact ⟨_, fun _ => rfl, ⟨by decide, by decide, by decide, by decide⟩⟩
theorem Us.Name.byte {l : List UInt8} (h : Us.Name l) {c : UInt8} (hc : c ∈ l) : Pl.lowB c = c ∧ 33 ≤ c.toNat ∧ c.toNat < 128 ∧ Ug.gap c = false ∧ (Pl.letter c = true → Pl.lowB (c - 32) = c ∧ 33 ≤ (c - 32).toNat ∧ (c - 32).toNat < 128 ∧ Ug.gap (c - 32) = false ∧ 32 ≤ c.toNat) := by
  have h1 := h.all c hc
  have h2 := Ug.all (p := fun c => !(Ug.sign c && decide (Pl.lowB c = c)) || decide (Pl.lowB c = c ∧ 33 ≤ c.toNat ∧ c.toNat < 128 ∧ Ug.gap c = false ∧ (Pl.letter c = true → Pl.lowB (c - 32) = c ∧ 33 ≤ (c - 32).toNat ∧ (c - 32).toNat < 128 ∧ Ug.gap (c - 32) = false ∧ 32 ≤ c.toNat))) (by decide +kernel) c
  rw [h1] at h2
  rw [Bool.not_true, Bool.false_or] at h2
  exact of_decide_eq_true h2
theorem Us.minus (c : UInt8) : ((c.toNat : Int) - 32) % 256 = ((c - 32).toNat : Int) :=
  of_decide_eq_true (Ug.all (p := fun c => decide (((c.toNat : Int) - 32) % 256 = ((c - 32).toNat : Int))) (by decide +kernel) c)
theorem Us.breaks (k : Nat) (hk : k < 3) : ∃ g : UInt8, (g = 9 ∨ g = 10 ∨ g = 13) ∧ ∀ h : k < ([Value.string ⟨#[9]⟩, Value.string ⟨#[10]⟩, Value.string ⟨#[13]⟩]).length, [Value.string ⟨#[9]⟩, Value.string ⟨#[10]⟩, Value.string ⟨#[13]⟩][k]'h = .string ⟨#[g]⟩ := by
  have h3 : k = 0 ∨ k = 1 ∨ k = 2 := by omega
  rcases h3 with rfl | rfl | rfl
  · exact ⟨9, .inl rfl, fun _ => rfl⟩
  · exact ⟨10, .inr (.inl rfl), fun _ => rfl⟩
  · exact ⟨13, .inr (.inr rfl), fun _ => rfl⟩
theorem Us.byteB {name : List UInt8} {R : ByteArray} {i : Nat} {c d : UInt8} (h : Us.At name i R.data.toList) (hc : name[i]? = some c) (hd : Pl.lowB d = c ∧ 33 ≤ d.toNat ∧ d.toNat < 128 ∧ Ug.gap d = false) : Us.At name (i + 1) (R ++ ⟨#[d]⟩).data.toList := by
  rw [Wk.cat2_data]
  exact Us.byte h hc hd.1 hd.2.1 hd.2.2.1 hd.2.2.2
theorem Us.gapB {name : List UInt8} {R : ByteArray} {i : Nat} {d : UInt8} (h : Us.At name (i + 1) R.data.toList) (hg : d = 9 ∨ d = 10 ∨ d = 13) : Us.At name (i + 1) (R ++ ⟨#[d]⟩).data.toList := by
  rw [Wk.cat2_data]
  exact Us.gap h (Nat.succ_pos _) hg
theorem Us.lit (x : ByteArray) (l : List UInt8) : (x.toList == l) = decide (x.data.toList = l) := by
  rw [ByteArray.toList_eq, Bool.eq_iff_iff, beq_iff_eq, decide_eq_true_iff]
theorem Us.Name.signs {l : List UInt8} (h : Us.Name l) : ∀ d ∈ l, Ug.sign d = true := fun d hd => (Bool.and_eq_true_iff.1 (h.all d hd)).1
theorem Us.endX {nm R u : ByteArray} (hN : Us.Name nm.data.toList) (h : Us.At nm.data.toList nm.size R.data.toList) : Ug.scheme (R ++ ⟨#[58]⟩ ++ u).data.toList = some nm.data.toList := by
  rw [Wk.cat2_data, Wk.cat2_data, List.append_assoc]
  rw [← Wk.len_data] at h
  exact Us.told h hN.ne hN.signs hN.letter
theorem Us.endY {nm R u : ByteArray} (hN : Us.Name nm.data.toList) (h : Us.At nm.data.toList nm.size R.data.toList) : Ug.scheme (R ++ ⟨#[47, 58]⟩ ++ u).data.toList = none := by
  rw [Wk.cat2_data, Wk.cat2_data, List.append_assoc]
  rw [← Wk.len_data] at h
  exact Us.slash (r := 58 :: u.data.toList) h hN.ne hN.signs hN.letter
theorem Us.endZ {nm R u y : ByteArray} (hN : Us.Name nm.data.toList) (h : Us.At nm.data.toList nm.size R.data.toList) (hy : Ug.start (R ++ ⟨#[58]⟩ ++ u).data.toList = y.data.toList) : (y.toList == [35, 90, 103, 111, 116, 109, 112, 108, 90]) = !Ug.known nm.data.toList := by
  rw [Wk.cat2_data, Wk.cat2_data, List.append_assoc] at hy
  rw [← Wk.len_data] at h
  have hr := Us.refused (r := u.data.toList) h hN.ne hN.signs hN.letter
  rw [Us.lit, ← hy, Bool.eq_iff_iff, decide_eq_true_iff]
  refine hr.trans ?_
  cases Ug.known nm.data.toList <;> simp
set_option maxRecDepth 100000 in
set_option maxHeartbeats 4000000 in
theorem Law.urlSchemes (wh gp : Int) (u : ByteArray) (w : World) (hT : Ut w) (hu : u.size ≤ 1073741824) : Calls Tryd.prog 6 #[.int .i64 wh, .int .i64 gp, .string u] w fun e w' => e = .returned (.bool true) ∧ Below w.heap.size w w' := by
  have aw := Ua.awake w hT
  obtain ⟨q, hq, hz⟩ : ∃ q : Nat, q < 8 ∧ wrap64 ((IntKind.u64.wrap wh).tmod 8) = (q : Int) := by
    have h1 : 0 ≤ IntKind.u64.wrap wh := by
      rw [IntKind.wrap_u64]
      omega
    have h2 : (IntKind.u64.wrap wh).tmod 8 = IntKind.u64.wrap wh % 8 := Int.tmod_eq_emod_of_nonneg h1
    refine ⟨(IntKind.u64.wrap wh % 8).toNat, by omega, ?_⟩
    rw [h2]
    unfold wrap64
    omega
  obtain ⟨nm, hnm, hN⟩ := Us.named q hq
  obtain ⟨m, hm, hm7⟩ : ∃ m : Nat, bits .and .i64 gp 7 = (m : Int) ∧ m ≤ 7 := by
    have h1 := Us.and7 gp
    exact ⟨(gp % 8).toNat, by omega, by omega⟩
  have HN := Lib.hid hN
  clear hN
  go_enter Tryd.func6, Tryd.ntmps6
  go_wp2_with (go_at_call 15; refine aw.mono ?_; rintro e w1 ⟨rfl, b1⟩; have B1 := Lib.hid b1; clear b1 aw)
  have HB0 := Lib.hid (B1.out.alloc B1.out.size (.cells #[.string ⟨#[104, 116, 116, 112]⟩, .string ⟨#[104, 116, 116, 112, 115]⟩, .string ⟨#[109, 97, 105, 108, 116, 111]⟩, .string ⟨#[116, 101, 108]⟩, .string ⟨#[106, 97, 118, 97, 115, 99, 114, 105, 112, 116]⟩, .string ⟨#[100, 97, 116, 97]⟩, .string ⟨#[97]⟩, .string ⟨#[120, 45, 121, 46, 122, 43, 49]⟩] 9))
  clear hq hz hnm
  go_loopw [9, 10] (fun sv ix wr => ∃ (i : Nat) (S : ByteArray), i ≤ 7 ∧ S.size ≤ i ∧ sv = .string S ∧ ix = .int .i64 (i : Int) ∧ Hid (∀ d ∈ S.data.toList, d.toNat ≤ 32 ∧ d ≠ 0) ∧ Hid (Below w.heap.size w wr)) (fun _ ix _ => 7 - (intOf ix).toNat)
  case atStart => exact ⟨0, ⟨#[]⟩, by omega, Nat.zero_le _, rfl, rfl, Us.nothing, HB0⟩
  case round =>
    clear HB0
    obtain ⟨i, S, hi, hS, rfl, rfl, HS, HB⟩ := hrel
    by_cases hlt : i < m
    · have d1 : decide ((i : Int) < (m : Int)) = true := decide_eq_true (by omega)
      have k1 : ¬ 9223372036854775807 < S.size + 1 := by omega
      have k2 : ¬ 9223372036854775807 ≤ S.size := by omega
      rcases Us.bit (gp / 2 ^ (3 + i)) with hb | hb
      · have cv := Us.conv1 wr 1
        rw [show (((1 : UInt8).toNat : Nat) : Int) = 1 from rfl] at cv
        have HS2 := Lib.hid (Us.blank HS.out (c := 1) (by decide))
        go_wp2_with fail
        go_roundw
        case rel => exact ⟨i + 1, _, by omega, by rw [Us.more]; omega, rfl, by go_num, HS2, HB.out.alloc HB.out.size _⟩
        case measure => simp [intOf]; omega
      · have cv := Us.conv1 wr 32
        rw [show (((32 : UInt8).toNat : Nat) : Int) = 32 from rfl] at cv
        have HS2 := Lib.hid (Us.blank HS.out (c := 32) (by decide))
        go_wp2_with fail
        go_roundw
        case rel => exact ⟨i + 1, _, by omega, by rw [Us.more]; omega, rfl, by go_num, HS2, HB.out.alloc HB.out.size _⟩
        case measure => simp [intOf]; omega
    · have d1 : decide ((i : Int) < (m : Int)) = false := decide_eq_false (by omega)
      have HA0 := Lib.hid (Us.start (name := nm.data.toList) HS.out)
      have hS7 : S.size ≤ 7 := by omega
      clear HS hS
      go_wp2_with fail
      clear d1 hlt hm hm7 hi
      go_loopw [9, 11] (fun sv ix wq => ∃ (j : Nat) (R : ByteArray), j ≤ nm.size ∧ R.size ≤ 7 + 2 * j ∧ sv = .string R ∧ ix = .int .i64 (j : Int) ∧ Hid (Us.At nm.data.toList j R.data.toList) ∧ Hid (Below w.heap.size w wq)) (fun _ ix _ => nm.size - (intOf ix).toNat)
      case atStart => exact ⟨0, S, Nat.zero_le _, by omega, rfl, rfl, HA0, HB⟩
      case round =>
        clear HA0 HB hS7
        obtain ⟨j, R, hj, hR, rfl, rfl, HA, HB⟩ := hrel
        have hn10 : nm.size ≤ 10 := by rw [← Wk.len_data]; exact HN.out.size
        by_cases hlt : j < nm.size
        · have d1 : decide ((j : Int) < (nm.size : Int)) = true := decide_eq_true (by omega)
          have HC := Lib.hid (Qr.at hlt)
          have k1 : ¬ 9223372036854775807 < R.size + 1 := by omega
          have k2 : ¬ 9223372036854775807 ≤ R.size := by omega
          have let1 := fun v => Rt.letter nm[j] v
          have HBY := Lib.hid (HN.out.byte (List.mem_of_getElem? HC.out))
          obtain ⟨k, hk1, hk2, hk3⟩ : ∃ k : Nat, k < 3 ∧ (j : Int).tmod 3 = (k : Int) ∧ (j : Int) % 3 = (k : Int) := by
            have h1 : (j : Int).tmod 3 = (j : Int) % 3 := Int.tmod_eq_emod_of_nonneg (by omega)
            exact ⟨j % 3, by omega, by omega, by omega⟩
          obtain ⟨g, hg, hgs⟩ := Us.breaks k hk1
          have HG := Lib.hid hg
          clear hg
          rcases Us.bit (gp / 2 ^ (j + 8)) with hb | hb
          · have HA2 := Lib.hid (Us.byteB HA.out HC.out ⟨HBY.out.1, HBY.out.2.1, HBY.out.2.2.1, HBY.out.2.2.2.1⟩)
            have cv := Us.conv1 wr nm[j]
            have k3 := Us.more R nm[j]
            have k4 : ¬ 9223372036854775807 < R.size + 1 + 1 := by omega
            clear HBY HC
            rcases Us.bit (gp / 2 ^ (j + 20)) with hb2 | hb2
            · clear HG
              go_wp2_with (go_at_call 18; refine (let1 _).mono ?_; rintro e w' ⟨rfl, hw⟩; have hw := hw.symm; subst hw)
              go_roundw
              case rel => exact ⟨j + 1, _, by omega, by rw [k3]; omega, rfl, by go_num, HA2, HB.out.alloc HB.out.size _⟩
              case measure => simp [intOf]; omega
            · have HA3 := Lib.hid (Us.gapB HA2.out HG.out)
              go_wp2_with (go_at_call 18; refine (let1 _).mono ?_; rintro e w' ⟨rfl, hw⟩; have hw := hw.symm; subst hw)
              go_roundw
              case rel => exact ⟨j + 1, _, by omega, by rw [Us.more, k3]; omega, rfl, by go_num, HA3, (HB.out.alloc HB.out.size _).alloc (by have := HB.out.size; simp; omega) _⟩
              case measure => simp [intOf]; omega
          · by_cases hl : Pl.letter nm[j] = true
            · rw [hl] at let1
              have hmi := Us.minus nm[j]
              have HA2 := Lib.hid (Us.byteB HA.out HC.out ⟨(HBY.out.2.2.2.2 hl).1, (HBY.out.2.2.2.2 hl).2.1, (HBY.out.2.2.2.2 hl).2.2.1, (HBY.out.2.2.2.2 hl).2.2.2.1⟩)
              clear hl
              have cv := Us.conv1 wr (nm[j] - 32)
              have k3 := Us.more R (nm[j] - 32)
              have k4 : ¬ 9223372036854775807 < R.size + 1 + 1 := by omega
              clear HBY HC
              rcases Us.bit (gp / 2 ^ (j + 20)) with hb2 | hb2
              · clear HG
                go_wp2_with (go_at_call 18; refine (let1 _).mono ?_; rintro e w' ⟨rfl, hw⟩; have hw := hw.symm; subst hw)
                go_roundw
                case rel => exact ⟨j + 1, _, by omega, by rw [k3]; omega, rfl, by go_num, HA2, HB.out.alloc HB.out.size _⟩
                case measure => simp [intOf]; omega
              · have HA3 := Lib.hid (Us.gapB HA2.out HG.out)
                go_wp2_with (go_at_call 18; refine (let1 _).mono ?_; rintro e w' ⟨rfl, hw⟩; have hw := hw.symm; subst hw)
                go_roundw
                case rel => exact ⟨j + 1, _, by omega, by rw [Us.more, k3]; omega, rfl, by go_num, HA3, (HB.out.alloc HB.out.size _).alloc (by have := HB.out.size; simp; omega) _⟩
                case measure => simp [intOf]; omega
            · rw [Bool.eq_false_iff.2 hl] at let1
              have HA2 := Lib.hid (Us.byteB HA.out HC.out ⟨HBY.out.1, HBY.out.2.1, HBY.out.2.2.1, HBY.out.2.2.2.1⟩)
              clear hl
              have cv := Us.conv1 wr nm[j]
              have k3 := Us.more R nm[j]
              have k4 : ¬ 9223372036854775807 < R.size + 1 + 1 := by omega
              clear HBY HC
              rcases Us.bit (gp / 2 ^ (j + 20)) with hb2 | hb2
              · clear HG
                go_wp2_with (go_at_call 18; refine (let1 _).mono ?_; rintro e w' ⟨rfl, hw⟩; have hw := hw.symm; subst hw)
                go_roundw
                case rel => exact ⟨j + 1, _, by omega, by rw [k3]; omega, rfl, by go_num, HA2, HB.out.alloc HB.out.size _⟩
                case measure => simp [intOf]; omega
              · have HA3 := Lib.hid (Us.gapB HA2.out HG.out)
                go_wp2_with (go_at_call 18; refine (let1 _).mono ?_; rintro e w' ⟨rfl, hw⟩; have hw := hw.symm; subst hw)
                go_roundw
                case rel => exact ⟨j + 1, _, by omega, by rw [Us.more, k3]; omega, rfl, by go_num, HA3, (HB.out.alloc HB.out.size _).alloc (by have := HB.out.size; simp; omega) _⟩
                case measure => simp [intOf]; omega
        · have e : j = nm.size := by omega
          subst e
          have d1 : decide ((nm.size : Int) < (nm.size : Int)) = false := decide_eq_false (by omega)
          have HX := Lib.hid (Us.endX (u := u) HN.out HA.out)
          have HY := Lib.hid (Us.endY (u := u) HN.out HA.out)
          obtain ⟨y, HZ, hy⟩ := Wk.ex_start (R ++ ⟨#[58]⟩ ++ u)
          have hz := Us.endZ HN.out HA.out HZ.out
          have g1 : (R ++ ⟨#[58]⟩).size = R.size + 1 := Us.more R 58
          have g2 : (R ++ ⟨#[47, 58]⟩).size = R.size + 2 := by rw [Wk.cat2_size]; rfl
          have g3 : (R ++ ⟨#[58]⟩ ++ u).size ≤ 1099511627776 := by rw [Wk.cat2_size, g1]; omega
          have g4 : (R ++ ⟨#[47, 58]⟩ ++ u).size ≤ 1099511627776 := by rw [Wk.cat2_size, g2]; omega
          have g5 : (R ++ ⟨#[58]⟩ ++ u).size ≤ 274877906944 := by rw [Wk.cat2_size, g1]; omega
          have cx := fun v => Up.some HX.out v g3
          have cy := fun v => Up.none HY.out v g4
          have cz := fun v hv => Up.start_to HZ.out v hv g5
          have hK : Ug.known nm.data.toList = (decide (nm.data.toList = Ug.http) || decide (nm.data.toList = Ug.https) || decide (nm.data.toList = Ug.mailto) || decide (nm.data.toList = Ug.tel)) := rfl
          have e1 : (nm.toList == [104, 116, 116, 112]) = decide (nm.data.toList = Ug.http) := Us.lit nm _
          have e2 : (nm.toList == [104, 116, 116, 112, 115]) = decide (nm.data.toList = Ug.https) := Us.lit nm _
          have e3 : (nm.toList == [109, 97, 105, 108, 116, 111]) = decide (nm.data.toList = Ug.mailto) := Us.lit nm _
          have e4 : (nm.toList == [116, 101, 108]) = decide (nm.data.toList = Ug.tel) := Us.lit nm _
          rw [hK] at hz
          have f1 : ¬ 9223372036854775807 < R.size + 1 := by omega
          have f2 : ¬ 9223372036854775807 < R.size + 2 := by omega
          have f3 : ¬ 9223372036854775807 < R.size + 1 + u.size := by omega
          have f4 : ¬ 9223372036854775807 < R.size + 2 + u.size := by omega
          clear hK HX HY HZ HA HN g3 g4 g5
          generalize decide (nm.data.toList = Ug.http) = b1 at *
          generalize decide (nm.data.toList = Ug.https) = b2 at *
          generalize decide (nm.data.toList = Ug.mailto) = b3 at *
          generalize decide (nm.data.toList = Ug.tel) = b4 at *
          go_wp2_with fail
          refine (cx _).mono ?_
          rintro e w3 ⟨rfl, hb3⟩
          have HB3 := Lib.hid (Wk.below_step HB.out hb3)
          clear hb3 cx HB
          go_wp2_with fail
          refine (cy _).mono ?_
          rintro e w4 ⟨rfl, hb4⟩
          have HB4 := Lib.hid (Wk.below_step HB3.out hb4)
          have cz := cz w4 (Utf8Tabs_below hT HB4.out)
          clear hb4 cy HB3
          have hcs : b1 = true ∨ (b1 = false ∧ b2 = true) ∨ (b1 = false ∧ b2 = false ∧ b3 = true) ∨ (b1 = false ∧ b2 = false ∧ b3 = false ∧ b4 = true) ∨ (b1 = false ∧ b2 = false ∧ b3 = false ∧ b4 = false) := by
            cases b1 <;> cases b2 <;> cases b3 <;> cases b4 <;> simp
          rcases hcs with rfl | ⟨rfl, rfl⟩ | ⟨rfl, rfl, rfl⟩ | ⟨rfl, rfl, rfl, rfl⟩ | ⟨rfl, rfl, rfl, rfl⟩
          all_goals
            simp only [Bool.true_or, Bool.or_true, Bool.or_false, Bool.not_true, Bool.not_false] at hz
            go_wp2_with (go_at_call 11; refine cz.mono ?_; rintro e w5 ⟨rfl, hb5⟩; have HB5 := Lib.hid (Wk.below_step HB4.out hb5); clear hb5 cz)
            go_ret
            exact ⟨rfl, HB5.out⟩
end Go.Proofs.YtfjhbhddfpkebaaDoor

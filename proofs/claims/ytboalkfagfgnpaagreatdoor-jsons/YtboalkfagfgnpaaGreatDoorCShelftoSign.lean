/-
  The library's contracts that the walks lean on, laid at this program's own numbers: strings.Builder's Grow, WriteString and String, and utf8.DecodeRuneInString; each is one application of a theorem of the library.
-/
import Derived.Shelf.Strings.Builder2
import Derived.Shelf.Strings.BuilderK
import Derived.Shelf.Unicode.DecodeAny
import Derived.Test.YtboalkfagfgnpaaGreatDoorProg
import Derived.Lib.DecodeN
import Derived.WalkKit
import Derived.BigCall
import Derived.Laws.IdiomStrings
namespace Go.Proofs.YtboalkfagfgnpaaGreatDoor
open Go.Shelf
def Sh.lays169_ren : Go.Shelf.Ren := ⟨fun | 169 => 18 | n => n, fun | 70 => 43 | 9 => 9 | 0 => 0 | 72 => 46 | 37 => 44 | 127 => 75 | 3 => 3 | 5 => 5 | n => n, fun | n => n⟩
theorem Sh.lays169 : Go.Proofs.Lays.n169 Tryz.prog Sh.lays169_ren := {
  mixed := by kernel_rfl
  f169 := Tryz.func18.trans (congrArg some (by kernel_rfl))
  t0 := Tryz.underlying0
  a0 := Tryz.isAgg0
  z0 := Tryz.sizeOf0
  v0 := Tryz.zeroValue0
  t3 := Tryz.underlying3
  a3 := Tryz.isAgg3
  z3 := Tryz.sizeOf3
  v3 := Tryz.zeroValue3
  t9 := Tryz.underlying9
  a9 := Tryz.isAgg9
  z9 := Tryz.sizeOf9
  v9 := Tryz.zeroValue9
  t37 := Tryz.underlying44
  a37 := Tryz.isAgg44
  z37 := Tryz.sizeOf44
  v37 := Tryz.zeroValue44
  t70 := Tryz.underlying43
  a70 := Tryz.isAgg43
  z70 := Tryz.sizeOf43
  v70 := Tryz.zeroValue43
  t72 := Tryz.underlying46
  a72 := Tryz.isAgg46
  z72 := Tryz.sizeOf46
  v72 := Tryz.zeroValue46
  t127 := Tryz.underlying75
  a127 := Tryz.isAgg75
  z127 := Tryz.sizeOf75
  v127 := Tryz.zeroValue75 }
theorem Sh.Builder_Extra_169 : Builder.Extra Tryz.prog Sh.lays169_ren := {
  sizeBuilder := by kernel_rfl
  liesBuilder := by kernel_rfl
  t5 := Tryz.underlying5
  a5 := Tryz.isAgg5
  z5 := Tryz.sizeOf5
  v5 := Tryz.zeroValue5
  infoByte := by kernel_rfl
  cellsByte := by kernel_rfl
  sizeByte := by kernel_rfl
  neB5 := by decide }
def Sh.lays165_ren : Go.Shelf.Ren := ⟨fun | 165 => 92 | 240 => 60 | 241 => 116 | 276 => 81 | 277 => 128 | n => n, fun | 70 => 43 | 3 => 3 | 0 => 0 | 4 => 4 | 9 => 9 | 20 => 20 | 72 => 46 | 37 => 44 | 164 => 99 | 5 => 5 | n => n, fun | n => n⟩
theorem Sh.lays165 : Go.Proofs.Lays.n165 Tryz.prog Sh.lays165_ren := {
  mixed := by kernel_rfl
  f165 := Tryz.func92.trans (congrArg some (by kernel_rfl))
  f240 := Tryz.func60.trans (congrArg some (by kernel_rfl))
  f241 := Tryz.func116.trans (congrArg some (by kernel_rfl))
  f276 := Tryz.func81.trans (congrArg some (by kernel_rfl))
  f277 := Tryz.func128.trans (congrArg some (by kernel_rfl))
  t0 := Tryz.underlying0
  a0 := Tryz.isAgg0
  z0 := Tryz.sizeOf0
  v0 := Tryz.zeroValue0
  t3 := Tryz.underlying3
  a3 := Tryz.isAgg3
  z3 := Tryz.sizeOf3
  v3 := Tryz.zeroValue3
  t4 := Tryz.underlying4
  a4 := Tryz.isAgg4
  z4 := Tryz.sizeOf4
  v4 := Tryz.zeroValue4
  t9 := Tryz.underlying9
  a9 := Tryz.isAgg9
  z9 := Tryz.sizeOf9
  v9 := Tryz.zeroValue9
  t20 := Tryz.underlying20
  a20 := Tryz.isAgg20
  z20 := Tryz.sizeOf20
  v20 := Tryz.zeroValue20
  t37 := Tryz.underlying44
  a37 := Tryz.isAgg44
  z37 := Tryz.sizeOf44
  v37 := Tryz.zeroValue44
  t70 := Tryz.underlying43
  a70 := Tryz.isAgg43
  z70 := Tryz.sizeOf43
  v70 := Tryz.zeroValue43
  t72 := Tryz.underlying46
  a72 := Tryz.isAgg46
  z72 := Tryz.sizeOf46
  v72 := Tryz.zeroValue46
  t164 := Tryz.underlying99
  a164 := Tryz.isAgg99
  z164 := Tryz.sizeOf99
  v164 := Tryz.zeroValue99 }
theorem Sh.Builder_Extra_165 : Builder.Extra Tryz.prog Sh.lays165_ren := {
  sizeBuilder := by kernel_rfl
  liesBuilder := by kernel_rfl
  t5 := Tryz.underlying5
  a5 := Tryz.isAgg5
  z5 := Tryz.sizeOf5
  v5 := Tryz.zeroValue5
  infoByte := by kernel_rfl
  cellsByte := by kernel_rfl
  sizeByte := by kernel_rfl
  neB5 := by decide }
open Go.RowKit in
theorem Sh.Builder_Grow_fresh (B b n : Nat) (w : World) (hB : B ≤ b) (hbk : w.heap[b]? = some (.cells #[.pointer none, .slice none 0 0] 46 (0, 0))) (hBw : B ≤ w.heap.size) (hn : n ≤ 281474976710656) :
    Calls Tryz.prog 92 #[.pointer (some ⟨b, 0, none⟩), .int .i64 n] w fun e w' => e = .returned (.tuple #[]) ∧ (Lib.BuilderAt 46 5 B b (.pointer (some ⟨b, 0, none⟩)) [] w' ∧ Below B w w') := Any.Builder_Grow_fresh Sh.lays165 Sh.Builder_Extra_165 B b n w hB hbk hBw hn
open Go.RowKit in
theorem Sh.Builder_String_any_k (B b : Nat) (l : List UInt8) (w : World) (h : Lib.IsBuilderF 46 5 B b (Lib.byteCells l) w) (hBw : B ≤ w.heap.size) :
    Calls Tryz.prog 18 #[.pointer (some ⟨b, 0, none⟩)] w fun e w' => e = .returned (.string ⟨l.toArray⟩) ∧ (Lib.IsBuilderF 46 5 B b (Lib.byteCells l) w' ∧ Below B w w' ∧ Lib.OthersKept 5 (some b) w w') := Any.Builder_String_any_k Sh.lays169 Sh.Builder_Extra_169 B b l w h hBw
def Sh.lays260_ren : Go.Shelf.Ren := ⟨fun | 260 => 98 | n => n, fun | 9 => 9 | 21 => 21 | 3 => 3 | 4 => 4 | 5 => 5 | 119 => 125 | 0 => 0 | 46 => 87 | 139 => 128 | 138 => 127 | n => n, fun | 3 => 1 | 4 => 2 | n => n⟩
theorem Sh.lays260 : Go.Proofs.Lays.n260 Tryz.prog Sh.lays260_ren := {
  mixed := by kernel_rfl
  f260 := Tryz.func98.trans (congrArg some (by kernel_rfl))
  t0 := Tryz.underlying0
  a0 := Tryz.isAgg0
  z0 := Tryz.sizeOf0
  v0 := Tryz.zeroValue0
  t3 := Tryz.underlying3
  a3 := Tryz.isAgg3
  z3 := Tryz.sizeOf3
  v3 := Tryz.zeroValue3
  t4 := Tryz.underlying4
  a4 := Tryz.isAgg4
  z4 := Tryz.sizeOf4
  v4 := Tryz.zeroValue4
  t5 := Tryz.underlying5
  a5 := Tryz.isAgg5
  z5 := Tryz.sizeOf5
  v5 := Tryz.zeroValue5
  t9 := Tryz.underlying9
  a9 := Tryz.isAgg9
  z9 := Tryz.sizeOf9
  v9 := Tryz.zeroValue9
  t21 := Tryz.underlying21
  a21 := Tryz.isAgg21
  z21 := Tryz.sizeOf21
  v21 := Tryz.zeroValue21
  t46 := Tryz.underlying87
  a46 := Tryz.isAgg87
  z46 := Tryz.sizeOf87
  v46 := Tryz.zeroValue87
  t119 := Tryz.underlying125
  a119 := Tryz.isAgg125
  z119 := Tryz.sizeOf125
  t138 := Tryz.underlying127
  a138 := Tryz.isAgg127
  z138 := Tryz.sizeOf127
  v138 := Tryz.zeroValue127
  t139 := Tryz.underlying128
  a139 := Tryz.isAgg128
  z139 := Tryz.sizeOf128
  v139 := Tryz.zeroValue128
  g3 := by kernel_rfl
  g4 := by kernel_rfl }
def Sh.lays197_ren : Go.Shelf.Ren := ⟨fun | 197 => 68 | 260 => 98 | n => n, fun | 9 => 9 | 21 => 21 | 3 => 3 | 4 => 4 | 5 => 5 | 105 => 90 | 119 => 125 | 0 => 0 | 46 => 87 | 139 => 128 | 138 => 127 | n => n, fun | 3 => 1 | 4 => 2 | n => n⟩
theorem Sh.lays197 : Go.Proofs.Lays.n197 Tryz.prog Sh.lays197_ren := {
  mixed := by kernel_rfl
  f197 := Tryz.func68.trans (congrArg some (by kernel_rfl))
  f260 := Tryz.func98.trans (congrArg some (by kernel_rfl))
  t0 := Tryz.underlying0
  a0 := Tryz.isAgg0
  z0 := Tryz.sizeOf0
  v0 := Tryz.zeroValue0
  t3 := Tryz.underlying3
  a3 := Tryz.isAgg3
  z3 := Tryz.sizeOf3
  v3 := Tryz.zeroValue3
  t4 := Tryz.underlying4
  a4 := Tryz.isAgg4
  z4 := Tryz.sizeOf4
  v4 := Tryz.zeroValue4
  t5 := Tryz.underlying5
  a5 := Tryz.isAgg5
  z5 := Tryz.sizeOf5
  v5 := Tryz.zeroValue5
  t9 := Tryz.underlying9
  a9 := Tryz.isAgg9
  z9 := Tryz.sizeOf9
  v9 := Tryz.zeroValue9
  t21 := Tryz.underlying21
  a21 := Tryz.isAgg21
  z21 := Tryz.sizeOf21
  v21 := Tryz.zeroValue21
  t46 := Tryz.underlying87
  a46 := Tryz.isAgg87
  z46 := Tryz.sizeOf87
  v46 := Tryz.zeroValue87
  t105 := Tryz.underlying90
  a105 := Tryz.isAgg90
  z105 := Tryz.sizeOf90
  v105 := Tryz.zeroValue90
  t119 := Tryz.underlying125
  a119 := Tryz.isAgg125
  z119 := Tryz.sizeOf125
  t138 := Tryz.underlying127
  a138 := Tryz.isAgg127
  z138 := Tryz.sizeOf127
  v138 := Tryz.zeroValue127
  t139 := Tryz.underlying128
  a139 := Tryz.isAgg128
  z139 := Tryz.sizeOf128
  v139 := Tryz.zeroValue128
  g3 := by kernel_rfl
  g4 := by kernel_rfl }
open Go.RowKit Go.Lib in
theorem Sh.utf8_DecodeRuneInString (s : ByteArray) (w : World) (hT : Lib.Utf8Tabs 1 2 w) :
    Calls Tryz.prog 68 #[.string s] w fun e w' => e = .returned (.tuple #[.int .i32 (Lib.decodeGo s).1, .int .i64 (Lib.decodeGo s).2]) ∧ Below w.heap.size w w' := Any.utf8_DecodeRuneInString Sh.lays197 s w hT
def Sh.lays166_ren : Go.Shelf.Ren := ⟨fun | 166 => 35 | 240 => 60 | 276 => 81 | n => n, fun | 70 => 43 | 3 => 3 | 0 => 0 | 4 => 4 | 9 => 9 | 20 => 20 | 72 => 46 | 37 => 44 | 164 => 99 | 5 => 5 | 75 => 67 | 80 => 49 | n => n, fun | n => n⟩
theorem Sh.lays166 : Go.Proofs.Lays.n166 Tryz.prog Sh.lays166_ren := {
  mixed := by kernel_rfl
  f166 := Tryz.func35.trans (congrArg some (by kernel_rfl))
  f240 := Tryz.func60.trans (congrArg some (by kernel_rfl))
  f276 := Tryz.func81.trans (congrArg some (by kernel_rfl))
  t0 := Tryz.underlying0
  a0 := Tryz.isAgg0
  z0 := Tryz.sizeOf0
  v0 := Tryz.zeroValue0
  t3 := Tryz.underlying3
  a3 := Tryz.isAgg3
  z3 := Tryz.sizeOf3
  v3 := Tryz.zeroValue3
  t4 := Tryz.underlying4
  a4 := Tryz.isAgg4
  z4 := Tryz.sizeOf4
  v4 := Tryz.zeroValue4
  t9 := Tryz.underlying9
  a9 := Tryz.isAgg9
  z9 := Tryz.sizeOf9
  v9 := Tryz.zeroValue9
  t20 := Tryz.underlying20
  a20 := Tryz.isAgg20
  z20 := Tryz.sizeOf20
  v20 := Tryz.zeroValue20
  t37 := Tryz.underlying44
  a37 := Tryz.isAgg44
  z37 := Tryz.sizeOf44
  v37 := Tryz.zeroValue44
  t70 := Tryz.underlying43
  a70 := Tryz.isAgg43
  z70 := Tryz.sizeOf43
  v70 := Tryz.zeroValue43
  t72 := Tryz.underlying46
  a72 := Tryz.isAgg46
  z72 := Tryz.sizeOf46
  v72 := Tryz.zeroValue46
  t75 := Tryz.underlying67
  a75 := Tryz.isAgg67
  z75 := Tryz.sizeOf67
  v75 := Tryz.zeroValue67
  t164 := Tryz.underlying99
  a164 := Tryz.isAgg99
  z164 := Tryz.sizeOf99
  v164 := Tryz.zeroValue99 }
theorem Sh.Builder_Extra_166 : Builder.Extra Tryz.prog Sh.lays166_ren := {
  sizeBuilder := by kernel_rfl
  liesBuilder := by kernel_rfl
  t5 := Tryz.underlying5
  a5 := Tryz.isAgg5
  z5 := Tryz.sizeOf5
  v5 := Tryz.zeroValue5
  infoByte := by kernel_rfl
  cellsByte := by kernel_rfl
  sizeByte := by kernel_rfl
  neB5 := by decide }
open Go.RowKit in
theorem Sh.Builder_WriteString_k (B b : Nat) (bs : List Value) (s : ByteArray) (w : World) (h : Lib.IsBuilderF 46 5 B b bs w) (hlen : bs.length + s.size ≤ 140737488355328) (hBw : B ≤ w.heap.size) :
    Calls Tryz.prog 35 #[.pointer (some ⟨b, 0, none⟩), .string s] w fun e w' => e = .returned (.tuple #[.int .i64 s.size, .nilIface]) ∧ (Lib.BuilderAtF 46 5 B b (.pointer (some ⟨b, 0, none⟩)) (bs ++ Lib.strCells s) w' ∧ Below B w w' ∧ Lib.OthersKept 5 (some b) w w') := Any.Builder_WriteString_k Sh.lays166 Sh.Builder_Extra_166 B b bs s w h hlen hBw
def Sh.lays167_ren : Go.Shelf.Ren := ⟨fun | 167 => 43 | 240 => 60 | 276 => 81 | n => n, fun | 70 => 43 | 3 => 3 | 0 => 0 | 4 => 4 | 9 => 9 | 20 => 20 | 72 => 46 | 37 => 44 | 164 => 99 | 5 => 5 | 75 => 67 | 80 => 49 | n => n, fun | n => n⟩
theorem Sh.lays167 : Go.Proofs.Lays.n167 Tryz.prog Sh.lays167_ren := {
  mixed := by kernel_rfl
  f167 := Tryz.func43.trans (congrArg some (by kernel_rfl))
  f240 := Tryz.func60.trans (congrArg some (by kernel_rfl))
  f276 := Tryz.func81.trans (congrArg some (by kernel_rfl))
  t0 := Tryz.underlying0
  a0 := Tryz.isAgg0
  z0 := Tryz.sizeOf0
  v0 := Tryz.zeroValue0
  t4 := Tryz.underlying4
  a4 := Tryz.isAgg4
  z4 := Tryz.sizeOf4
  v4 := Tryz.zeroValue4
  t5 := Tryz.underlying5
  a5 := Tryz.isAgg5
  z5 := Tryz.sizeOf5
  v5 := Tryz.zeroValue5
  t9 := Tryz.underlying9
  a9 := Tryz.isAgg9
  z9 := Tryz.sizeOf9
  v9 := Tryz.zeroValue9
  t20 := Tryz.underlying20
  a20 := Tryz.isAgg20
  z20 := Tryz.sizeOf20
  v20 := Tryz.zeroValue20
  t37 := Tryz.underlying44
  a37 := Tryz.isAgg44
  z37 := Tryz.sizeOf44
  v37 := Tryz.zeroValue44
  t70 := Tryz.underlying43
  a70 := Tryz.isAgg43
  z70 := Tryz.sizeOf43
  v70 := Tryz.zeroValue43
  t72 := Tryz.underlying46
  a72 := Tryz.isAgg46
  z72 := Tryz.sizeOf46
  v72 := Tryz.zeroValue46
  t75 := Tryz.underlying67
  a75 := Tryz.isAgg67
  z75 := Tryz.sizeOf67
  v75 := Tryz.zeroValue67
  t164 := Tryz.underlying99
  a164 := Tryz.isAgg99
  z164 := Tryz.sizeOf99
  v164 := Tryz.zeroValue99 }
theorem Sh.Builder_Extra_167 : Builder.Extra Tryz.prog Sh.lays167_ren := {
  sizeBuilder := by kernel_rfl
  liesBuilder := by kernel_rfl
  t5 := Tryz.underlying5
  a5 := Tryz.isAgg5
  z5 := Tryz.sizeOf5
  v5 := Tryz.zeroValue5
  infoByte := by kernel_rfl
  cellsByte := by kernel_rfl
  sizeByte := by kernel_rfl
  neB5 := by decide }
open Go.RowKit in
theorem Sh.Builder_WriteByte_k (B b : Nat) (bs : List Value) (c : Int) (w : World) (h : Lib.IsBuilderF 46 5 B b bs w) (hlen : bs.length + 1 ≤ 140737488355328) (hBw : B ≤ w.heap.size) :
    Calls Tryz.prog 43 #[.pointer (some ⟨b, 0, none⟩), .int .u8 c] w fun e w' => e = .returned .nilIface ∧ (Lib.BuilderAtF 46 5 B b (.pointer (some ⟨b, 0, none⟩)) (bs ++ [.int .u8 c]) w' ∧ Below B w w' ∧ Lib.OthersKept 5 (some b) w w') := Any.Builder_WriteByte_k Sh.lays167 Sh.Builder_Extra_167 B b bs c w h hlen hBw
end Go.Proofs.YtboalkfagfgnpaaGreatDoor
/-
  PLAIN LISTS OF BYTES, no program: what utf.May, utf.Norm and utf.Lower give, as functions on lists of bytes, and the laws among them that the statements of layer 1 ask.
-/
namespace Go.Proofs.YtboalkfagfgnpaaGreatDoor.Pl

/-- a further byte of a sign -/
def cont (b : Nat) : Bool := decide (128 ≤ b) && decide (b ≤ 191)

/-- how long the sign is that n bytes begin with, b0 to b3 the first of them (0 beyond the end); 0: none, or the byte 0 -/
def sgnN (n b0 b1 b2 b3 : Nat) : Nat :=
  if b0 = 0 then 0
  else if b0 < 128 then 1
  else if b0 < 194 then 0
  else if b0 < 224 then (if 2 ≤ n ∧ (128 ≤ b1 ∧ b1 ≤ 191) then 2 else 0)
  else if b0 < 240 then (if 3 ≤ n ∧ (128 ≤ b1 ∧ b1 ≤ 191) ∧ (128 ≤ b2 ∧ b2 ≤ 191) ∧ (b0 = 224 → 160 ≤ b1) ∧ (b0 = 237 → b1 ≤ 159) then 3 else 0)
  else if b0 < 245 then (if 4 ≤ n ∧ (128 ≤ b1 ∧ b1 ≤ 191) ∧ (128 ≤ b2 ∧ b2 ≤ 191) ∧ (128 ≤ b3 ∧ b3 ≤ 191) ∧ (b0 = 240 → 144 ≤ b1) ∧ (b0 = 244 → b1 ≤ 143) then 4 else 0)
  else 0

set_option maxRecDepth 100000 in
set_option maxHeartbeats 4000000 in
theorem sgnN_decode (n b0 b1 b2 b3 : Nat) (h0 : b0 < 256) (h1 : b1 < 256) (h2 : b2 < 256) (h3 : b3 < 256) (r k : Nat) (h : Lib.decodeN n b0 b1 b2 b3 = (r, k)) :
    (if r = 0 ∨ (r = 65533 ∧ k = 1) then 0 else k) = sgnN n b0 b1 b2 b3 := by
  unfold Lib.decodeN at h
  repeat' split at h
  all_goals
    simp only [Prod.mk.injEq] at h
    obtain ⟨rfl, rfl⟩ := h
    unfold sgnN
    repeat' split
    all_goals omega

theorem sgnN_le (n b0 b1 b2 b3 : Nat) : sgnN n b0 b1 b2 b3 ≤ 4 := by
  unfold sgnN; repeat' split
  all_goals omega
theorem sgnN_len (n b0 b1 b2 b3 : Nat) (hn : 1 ≤ n) : sgnN n b0 b1 b2 b3 ≤ n := by
  unfold sgnN; repeat' split
  all_goals omega

def nb (l : List UInt8) (i : Nat) : Nat := (l.getD i 0).toNat
def sgn (l : List UInt8) : Nat := sgnN l.length (nb l 0) (nb l 1) (nb l 2) (nb l 3)

theorem nb_lt (l : List UInt8) (i : Nat) : nb l i < 256 := (l.getD i 0).toNat_lt
theorem nb_take (l : List UInt8) (k i : Nat) (h : i < k) : nb (l.take k) i = nb l i := by
  simp [nb, List.getD_eq_getElem?_getD, h]
theorem nb_append (l r : List UInt8) (i : Nat) (h : i < l.length) : nb (l ++ r) i = nb l i := by
  simp [nb, List.getD_eq_getElem?_getD, List.getElem?_append, h]
theorem sgn_le_four (l : List UInt8) : sgn l ≤ 4 := sgnN_le ..
theorem sgn_le (l : List UInt8) : sgn l ≤ l.length := by
  cases l with
  | nil => exact Nat.le_refl _
  | cons c r => exact sgnN_len _ _ _ _ _ (by simp)

/-- A SIGN IS ONE WHATEVER STANDS BEHIND IT. -/
theorem sgnN_more (n m b0 b1 b2 b3 c1 c2 c3 k : Nat) (hk : k ≠ 0) (h : sgnN n b0 b1 b2 b3 = k) (hm : k ≤ m) (e1 : 1 < k → c1 = b1) (e2 : 2 < k → c2 = b2) (e3 : 3 < k → c3 = b3) : sgnN m b0 c1 c2 c3 = k := by
  unfold sgnN at h ⊢
  repeat' split at h
  all_goals subst h
  all_goals first | (exact absurd rfl hk) | skip
  all_goals simp at e1 e2 e3
  all_goals (try subst e1) <;> (try subst e2) <;> (try subst e3)
  all_goals repeat' split
  all_goals omega

/-- what the sign's own bytes and then anything else begin with -/
theorem sgn_take_append (l r : List UInt8) (h : sgn l ≠ 0) : sgn (l.take (sgn l) ++ r) = sgn l := by
  have hl := sgn_le l
  have h4 := sgn_le_four l
  have hlen : (l.take (sgn l)).length = sgn l := by rw [List.length_take]; omega
  have e : ∀ i, i < sgn l → nb (l.take (sgn l) ++ r) i = nb l i := fun i hi => by
    rw [nb_append _ _ _ (by omega), nb_take _ _ _ hi]
  have key := sgnN_more l.length (l.take (sgn l) ++ r).length (nb l 0) (nb l 1) (nb l 2) (nb l 3) (nb (l.take (sgn l) ++ r) 1) (nb (l.take (sgn l) ++ r) 2) (nb (l.take (sgn l) ++ r) 3) (sgn l) h rfl (by rw [List.length_append, hlen]; omega) (e 1) (e 2) (e 3)
  rw [← e 0 (by omega)] at key
  exact key
theorem sgn_append (l r : List UInt8) (h : sgn l ≠ 0) : sgn (l ++ r) = sgn l := by
  have := sgn_take_append l (l.drop (sgn l) ++ r) h
  rwa [← List.append_assoc, List.take_append_drop] at this

/-! ### May, Norm, Lower -/
def mayF : Nat → List UInt8 → Bool
  | 0, l => l.isEmpty
  | f + 1, l => if l.isEmpty then true else if sgn l = 0 then false else mayF f (l.drop (sgn l))
def mayL (l : List UInt8) : Bool := mayF l.length l
def fffd : List UInt8 := [239, 191, 189]
def normF : Nat → List UInt8 → List UInt8
  | 0, _ => []
  | f + 1, l => if l.isEmpty then [] else if sgn l = 0 then fffd ++ normF f (l.drop 1) else l.take (sgn l) ++ normF f (l.drop (sgn l))
def normL (l : List UInt8) : List UInt8 := normF l.length l

theorem mayF_fuel : ∀ (f g : Nat) (l : List UInt8), l.length ≤ f → l.length ≤ g → mayF f l = mayF g l := by
  intro f
  induction f with
  | zero =>
    intro g l hf _
    have : l = [] := List.eq_nil_of_length_eq_zero (by omega)
    subst this
    cases g <;> simp [mayF]
  | succ f ih =>
    intro g l hf hg
    cases g with
    | zero =>
      have : l = [] := List.eq_nil_of_length_eq_zero (by omega)
      subst this
      simp [mayF]
    | succ g =>
      simp only [mayF]
      by_cases h : sgn l = 0
      · simp [h]
      · simp only [h, if_false]
        rw [ih g (l.drop (sgn l)) (by simp; omega) (by simp; omega)]
theorem normF_fuel : ∀ (f g : Nat) (l : List UInt8), l.length ≤ f → l.length ≤ g → normF f l = normF g l := by
  intro f
  induction f with
  | zero =>
    intro g l hf _
    have : l = [] := List.eq_nil_of_length_eq_zero (by omega)
    subst this
    cases g <;> simp [normF]
  | succ f ih =>
    intro g l hf hg
    cases g with
    | zero =>
      have : l = [] := List.eq_nil_of_length_eq_zero (by omega)
      subst this
      simp [normF]
    | succ g =>
      simp only [normF]
      by_cases h : sgn l = 0
      · simp only [h, if_true]
        rw [ih g (l.drop 1) (by simp; omega) (by simp; omega)]
      · simp only [h, if_false]
        rw [ih g (l.drop (sgn l)) (by simp; omega) (by simp; omega)]

theorem normL_nil : normL [] = [] := rfl
theorem ne_nil_of_sgn {l : List UInt8} (h : sgn l ≠ 0) : l ≠ [] := by rintro rfl; exact h rfl
theorem mayL_bad (l : List UInt8) (hl : l ≠ []) (h : sgn l = 0) : mayL l = false := by
  cases l with
  | nil => exact absurd rfl hl
  | cons c r => simp [mayL, mayF, h]
theorem mayL_sign (l : List UInt8) (h : sgn l ≠ 0) : mayL l = mayL (l.drop (sgn l)) := by
  cases l with
  | nil => exact absurd rfl (ne_nil_of_sgn h)
  | cons c r =>
    have : mayL (c :: r) = mayF r.length ((c :: r).drop (sgn (c :: r))) := by simp [mayL, mayF, h]
    rw [this]
    exact mayF_fuel _ _ _ (by simp; omega) (Nat.le_refl _)
theorem normL_bad (l : List UInt8) (hl : l ≠ []) (h : sgn l = 0) : normL l = fffd ++ normL (l.drop 1) := by
  cases l with
  | nil => exact absurd rfl hl
  | cons c r =>
    have : normL (c :: r) = fffd ++ normF r.length r := by simp [normL, normF, h]
    rw [this]
    rfl
theorem normL_sign (l : List UInt8) (h : sgn l ≠ 0) : normL l = l.take (sgn l) ++ normL (l.drop (sgn l)) := by
  cases l with
  | nil => exact absurd rfl (ne_nil_of_sgn h)
  | cons c r =>
    have : normL (c :: r) = (c :: r).take (sgn (c :: r)) ++ normF r.length ((c :: r).drop (sgn (c :: r))) := by simp [normL, normF, h]
    rw [this, normF_fuel _ _ _ (by simp; omega) (Nat.le_refl _)]
    rfl

/-- an induction by signs -/
theorem ind {p : List UInt8 → Prop} (h0 : p []) (h1 : ∀ l, l ≠ [] → sgn l = 0 → p (l.drop 1) → p l) (h2 : ∀ l, sgn l ≠ 0 → p (l.drop (sgn l)) → p l) : ∀ l, p l := by
  intro l
  generalize hn : l.length = n
  induction n using Nat.strongRecOn generalizing l with
  | ind n ih =>
    by_cases hl : l = []
    · subst hl; exact h0
    · have hpos : 0 < l.length := List.length_pos_iff.2 hl
      by_cases h : sgn l = 0
      · exact h1 l hl h (ih (l.drop 1).length (by simp; omega) _ rfl)
      · exact h2 l h (ih (l.drop (sgn l)).length (by simp; omega) _ rfl)

theorem sgn_fffd (r : List UInt8) : sgn (fffd ++ r) = 3 := by
  have h : sgn fffd = 3 := by decide
  rw [sgn_append _ _ (by rw [h]; decide), h]
theorem mayL_fffd (r : List UInt8) : mayL (fffd ++ r) = mayL r := by
  rw [mayL_sign _ (by rw [sgn_fffd]; decide), sgn_fffd]; rfl
theorem drop_take_append (l r : List UInt8) (k : Nat) (h : k ≤ l.length) : (l.take k ++ r).drop k = r := by
  rw [List.drop_append_of_le_length (by simp; omega)]; simp
theorem mayL_take (l r : List UInt8) (h : sgn l ≠ 0) : mayL (l.take (sgn l) ++ r) = mayL r := by
  have e := sgn_take_append l r h
  rw [mayL_sign _ (by rw [e]; exact h), e, drop_take_append _ _ _ (sgn_le l)]
/-- WHAT IS NORMED MAY BE. -/
theorem may_norm (l : List UInt8) : mayL (normL l) = true := by
  refine ind (p := fun l => mayL (normL l) = true) rfl ?_ ?_ l
  · intro l hl h ih
    rw [normL_bad l hl h, mayL_fffd]; exact ih
  · intro l h ih
    rw [normL_sign l h, mayL_take l _ h]; exact ih
theorem norm_short (l : List UInt8) : (normL l).length ≤ 3 * l.length := by
  refine ind (p := fun l => (normL l).length ≤ 3 * l.length) (Nat.le_refl _) ?_ ?_ l
  · intro l hl h ih
    have hpos : 0 < l.length := List.length_pos_iff.2 hl
    rw [normL_bad l hl h]
    simp [fffd] at ih ⊢; omega
  · intro l h ih
    have := sgn_le l
    rw [normL_sign l h]
    simp at ih ⊢; omega

def lowB (c : UInt8) : UInt8 := if 65 ≤ c.toNat ∧ c.toNat ≤ 90 then c + 32 else c
def lowL (l : List UInt8) : List UInt8 := l.map lowB
theorem lowB_toNat (c : UInt8) : (lowB c).toNat = if 65 ≤ c.toNat ∧ c.toNat ≤ 90 then c.toNat + 32 else c.toNat := by
  unfold lowB
  split
  · rw [UInt8.toNat_add]; simp; omega
  · rfl
end Go.Proofs.YtboalkfagfgnpaaGreatDoor.Pl
/-
  THE WALKS of utf.signLength, stolelaw0.Num: each call returns what the plain function of the bytes gives, and turns nothing that was there.
-/
namespace Go.Proofs.YtboalkfagfgnpaaGreatDoor
open Go.RowKit

theorem Wk.get_nb (s : ByteArray) (i : Nat) : (s.get! i).toNat = Pl.nb s.data.toList i := by
  have : s.get! i = s.data.toList.getD i 0 := by
    show s.data[i]! = _
    rw [getElem!_def, List.getD_eq_getElem?_getD, Array.getElem?_toList]
    cases s.data[i]? <;> rfl
  rw [this]; rfl
theorem Wk.sgn_decodeGo (s : ByteArray) (r k : Nat) (h : Lib.decodeGo s = (r, k)) : (if r = 0 ∨ (r = 65533 ∧ k = 1) then 0 else k) = Pl.sgn s.data.toList := by
  have hsz : s.data.toList.length = s.size := by rw [Array.length_toList]; rfl
  unfold Lib.decodeGo at h
  split at h
  · rename_i h0
    have hn : s.data.toList = [] := List.eq_nil_of_length_eq_zero (by omega)
    simp only [Prod.mk.injEq] at h
    obtain ⟨rfl, rfl⟩ := h
    rw [hn]; rfl
  · rw [Lib.decode_at, Wk.get_nb, Wk.get_nb, Wk.get_nb, Wk.get_nb] at h
    have := Pl.sgnN_decode _ _ _ _ _ (Pl.nb_lt _ _) (Pl.nb_lt _ _) (Pl.nb_lt _ _) (Pl.nb_lt _ _) r k h
    rw [this]
    unfold Pl.sgn
    rw [hsz]; rfl
set_option maxHeartbeats 1000000 in
theorem Wk.sign (s : ByteArray) (w : World) (hT : Lib.Utf8Tabs 1 2 w) :
    Calls Tryz.prog 47 #[.string s] w fun e w' => e = .returned (.int .i64 (Pl.sgn s.data.toList : Nat)) ∧ Below w.heap.size w w' := by
  obtain ⟨r, k, hrk⟩ : ∃ r k, Lib.decodeGo s = (r, k) := ⟨_, _, rfl⟩
  have hS := Wk.sgn_decodeGo s r k hrk
  have c := Sh.utf8_DecodeRuneInString s w hT
  rw [hrk] at c
  generalize Pl.sgn s.data.toList = m at *
  clear hrk
  by_cases h0 : r = 0
  · subst h0
    have hm : m = 0 := by simpa using hS.symm
    subst hm
    clear hS
    go_enter Tryz.func47, Tryz.ntmps47
    go_wp2_with (go_at_call 68; refine c.mono ?_; rintro e w' ⟨rfl, hb⟩)
    go_ret
    exact ⟨rfl, hb⟩
  · have hr0 : ((r : Int) == 0) = false := by simpa using h0
    by_cases h1 : r = 65533
    · have hr1 : ((r : Int) == 65533) = true := by simp [h1]
      by_cases h2 : k = 1
      · have hk1 : ((k : Int) == 1) = true := by simp [h2]
        have hm : m = 0 := by simpa [h1, h2] using hS.symm
        subst hm
        clear hS h1 h2
        go_enter Tryz.func47, Tryz.ntmps47
        go_wp2_with (go_at_call 68; refine c.mono ?_; rintro e w' ⟨rfl, hb⟩)
        go_ret
        exact ⟨rfl, hb⟩
      · have hk1 : ((k : Int) == 1) = false := beq_eq_false_iff_ne.2 (by omega)
        have hm : m = k := by simpa [h1, h2] using hS.symm
        subst hm
        clear hS h1 h2
        go_enter Tryz.func47, Tryz.ntmps47
        go_wp2_with (go_at_call 68; refine c.mono ?_; rintro e w' ⟨rfl, hb⟩)
        go_ret
        exact ⟨rfl, hb⟩
    · have hr1 : ((r : Int) == 65533) = false := by simpa using (by omega : ¬ (r : Int) = 65533)
      have hm : m = k := by simpa [h0, h1] using hS.symm
      subst hm
      clear hS h1
      go_enter Tryz.func47, Tryz.ntmps47
      go_wp2_with (go_at_call 68; refine c.mono ?_; rintro e w' ⟨rfl, hb⟩)
      go_ret
      exact ⟨rfl, hb⟩

theorem Wk.num (w : World) : Calls Tryz.prog 10 #[.int .i64 0] w fun e w' => e = .returned (.int .i64 0) ∧ w' = w := by
  go_enter Tryz.func10, Tryz.ntmps10
  go_wp2
  go_ret
  exact ⟨rfl, rfl⟩
theorem Wk.rest_data (s : ByteArray) (k : Nat) : (s.extract k s.size).data.toList = s.data.toList.drop k := by
  rw [Lib.extract_data, List.take_of_length_le]
  rw [List.length_drop, Array.length_toList]
  exact Nat.le_refl _
theorem Wk.len_data (s : ByteArray) : s.data.toList.length = s.size := by rw [Array.length_toList]; rfl
theorem Wk.sign_at (s : ByteArray) (k : Nat) (w : World) (hT : Lib.Utf8Tabs 1 2 w) :
    Calls Tryz.prog 47 #[.string (s.extract k s.size)] w fun e w' => e = .returned (.int .i64 (Pl.sgn (s.data.toList.drop k) : Nat)) ∧ Below w.heap.size w w' := by
  have := Wk.sign (s.extract k s.size) w hT
  rwa [Wk.rest_data] at this
theorem Wk.drop_ne (s : ByteArray) (k : Nat) (h : k < s.size) : s.data.toList.drop k ≠ [] := by
  intro e
  have := congrArg List.length e
  rw [List.length_drop, Wk.len_data] at this
  simp at this
  omega
theorem Wk.ret_bool {a b : Bool} (h : a = b) : Ending.returned (.bool a) = .returned (.bool b) := by rw [h]
theorem Wk.below_step {w wr w1 : World} (h : Below w.heap.size w wr) (h1 : Below wr.heap.size wr w1) : Below w.heap.size w w1 := h.trans (h1.mono h.size)

theorem Wk.info5 : (Tryz.prog.info? 5).map (fun i => (i.zero, i.size, i.bytes)) = some (some (.int .u8 0), 1, 1) := by kernel_rfl
end Go.Proofs.YtboalkfagfgnpaaGreatDoor

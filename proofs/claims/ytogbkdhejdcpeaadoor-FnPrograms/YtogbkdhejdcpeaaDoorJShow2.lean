/-
  DERIVED: THE SHELF's CONTRACTS AT THIS DUMP, IN PLAIN WORDS (tools/lay-plain.mjs out of 'TrydShelf.lean', which tools/lay-shelf.mjs wrote): THE SAME DECLARATIONS UNDER THE SAME NAMES: 'import', 'namespace', 'open', 'def', 'theorem' AND NOTHING ELSE: no command of the shelf's: FOR A HAND-IN. Each laying: the table of numbers ('.._ren') and one theorem, a field a fact of the dump's own or the kernel's comparison; each contract: ONE APPLICATION.
-/
import Derived.Shelf.Strings.Builder1
import Derived.Shelf.Strings.Builder2
import Derived.Shelf.Strings.OnBuilder
import Derived.Shelf.Strconv.Itoa0
import Derived.Shelf.Strconv.Itoa1
import Derived.Shelf.LaysM
import Derived.Shelf.Strconv.Itoa2
import Derived.Shelf.Strconv.Itoa3
import Derived.Shelf.Strconv.Itoa4
import Derived.Test.YtogbkdhejdcpeaaDoorProg
import Derived.Test.YtogbkdhejdcpeaaDoorJShow1
import Derived.Lib.AppendIntMem
namespace Go.Proofs
open Go.Shelf
def Tryd.lays156_ren : Go.Shelf.Ren := ⟨fun | 156 => 57 | 165 => 78 | 166 => 79 | 169 => 80 | 240 => 98 | 241 => 99 | 276 => 110 | 277 => 111 | n => n, fun | 31 => 46 | 9 => 9 | 3 => 3 | 4 => 4 | 0 => 0 | 20 => 20 | 72 => 106 | 76 => 110 | 70 => 104 | 37 => 22 | 75 => 109 | 127 => 123 | 164 => 137 | 5 => 5 | 80 => 112 | n => n, fun | n => n⟩
theorem Tryd.lays156 : Go.Proofs.Lays.n156 Tryd.prog Tryd.lays156_ren := {
  mixed := by kernel_rfl
  f156 := Tryd.func57.trans (congrArg some (by kernel_rfl))
  f165 := Tryd.func78.trans (congrArg some (by kernel_rfl))
  f166 := Tryd.func79.trans (congrArg some (by kernel_rfl))
  f169 := Tryd.func80.trans (congrArg some (by kernel_rfl))
  f240 := Tryd.func98.trans (congrArg some (by kernel_rfl))
  f241 := Tryd.func99.trans (congrArg some (by kernel_rfl))
  f276 := Tryd.func110.trans (congrArg some (by kernel_rfl))
  f277 := Tryd.func111.trans (congrArg some (by kernel_rfl))
  t0 := Tryd.underlying0
  a0 := Tryd.isAgg0
  z0 := Tryd.sizeOf0
  v0 := Tryd.zeroValue0
  t3 := Tryd.underlying3
  a3 := Tryd.isAgg3
  z3 := Tryd.sizeOf3
  v3 := Tryd.zeroValue3
  t4 := Tryd.underlying4
  a4 := Tryd.isAgg4
  z4 := Tryd.sizeOf4
  v4 := Tryd.zeroValue4
  t9 := Tryd.underlying9
  a9 := Tryd.isAgg9
  z9 := Tryd.sizeOf9
  v9 := Tryd.zeroValue9
  t20 := Tryd.underlying20
  a20 := Tryd.isAgg20
  z20 := Tryd.sizeOf20
  v20 := Tryd.zeroValue20
  t31 := Tryd.underlying46
  a31 := Tryd.isAgg46
  z31 := Tryd.sizeOf46
  v31 := Tryd.zeroValue46
  t37 := Tryd.underlying22
  a37 := Tryd.isAgg22
  z37 := Tryd.sizeOf22
  v37 := Tryd.zeroValue22
  t70 := Tryd.underlying104
  a70 := Tryd.isAgg104
  z70 := Tryd.sizeOf104
  v70 := Tryd.zeroValue104
  t72 := Tryd.underlying106
  a72 := Tryd.isAgg106
  z72 := Tryd.sizeOf106
  v72 := Tryd.zeroValue106
  t75 := Tryd.underlying109
  a75 := Tryd.isAgg109
  z75 := Tryd.sizeOf109
  v75 := Tryd.zeroValue109
  t76 := Tryd.underlying110
  a76 := Tryd.isAgg110
  z76 := Tryd.sizeOf110
  v76 := Tryd.zeroValue110
  t127 := Tryd.underlying123
  a127 := Tryd.isAgg123
  z127 := Tryd.sizeOf123
  v127 := Tryd.zeroValue123
  t164 := Tryd.underlying137
  a164 := Tryd.isAgg137
  z164 := Tryd.sizeOf137
  v164 := Tryd.zeroValue137 }
theorem Tryd.Builder_Extra_156 : Builder.Extra Tryd.prog Tryd.lays156_ren := {
  sizeBuilder := by kernel_rfl
  liesBuilder := by kernel_rfl
  t5 := Tryd.underlying5
  a5 := Tryd.isAgg5
  z5 := Tryd.sizeOf5
  v5 := Tryd.zeroValue5
  infoByte := by kernel_rfl
  cellsByte := by kernel_rfl
  sizeByte := by kernel_rfl
  neB5 := by decide }
open Go.RowKit in
/-- No element: the empty string; the world is as it was. (Whatever the slice's address and capacity: a nil slice too.) (LAID: no walk: one application.) -/
theorem Tryd.strings_Join_none (a : Option Addr) (c : Nat) (sep : ByteArray) (w : World) :
    Calls Tryd.prog 57 #[.slice a 0 c, .string sep] w fun e w' => e = .returned (.string ⟨#[]⟩) ∧ w' = w := Any.strings_Join_none Tryd.lays156 Tryd.Builder_Extra_156 a c sep w
open Go.RowKit in
/-- strings.Join: "Join concatenates the elements of its first argument to create a single string. The separator string sep is placed between elements in the resulting string.": HOWEVER MANY ELEMENTS. Below the heap's end the world is as it was. (LAID: no walk: one application.) -/
theorem Tryd.strings_Join (bk o c : Nat) (xs : List ByteArray) (sep : ByteArray) (w : World) (hcells : ∀ (j : Nat) x, xs[j]? = some x → w.cell? ⟨bk, o + j, none⟩ = some (.string x)) (hbk : bk < w.heap.size) (hN : xs.length ≤ 140737488355328) (hcap : xs.length ≤ c) (hlen : (Lib.join (xs.map (·.data.toList)) sep.data.toList).length ≤ 140737488355328) :
    Calls Tryd.prog 57 #[.slice (some ⟨bk, o, none⟩) xs.length c, .string sep] w fun e w' => e = .returned (.string ⟨(Lib.join (xs.map (·.data.toList)) sep.data.toList).toArray⟩) ∧ Below w.heap.size w w' := Any.strings_Join Tryd.lays156 Tryd.Builder_Extra_156 bk o c xs sep w hcells hbk hN hcap hlen
def Tryd.laysM173_ren : Go.Shelf.Ren := ⟨fun | 173 => 77 | 246 => 97 | 283 => 106 | 284 => 107 | 285 => 108 | 286 => 109 | 129 => 118 | 317 => 117 | 318 => 119 | 319 => 120 | 320 => 121 | 337 => 124 | 338 => 125 | n => n, fun | 2 => 2 | 3 => 3 | 9 => 9 | 4 => 4 | 171 => 131 | 0 => 0 | 53 => 132 | 37 => 22 | 5 => 5 | 173 => 135 | 212 => 146 | 51 => 147 | 20 => 20 | 213 => 148 | 46 => 121 | 232 => 155 | 233 => 156 | n => n, fun | 17 => 0 | 18 => 2 | 19 => 3 | n => n⟩
theorem Tryd.laysM173 : Go.Proofs.LaysM.n173 Tryd.prog Tryd.laysM173_ren := {
  mixed := by kernel_rfl
  f129 := Tryd.func118.trans (congrArg some (by kernel_rfl))
  f173 := Tryd.func77.trans (congrArg some (by kernel_rfl))
  f246 := Tryd.func97.trans (congrArg some (by kernel_rfl))
  f283 := Tryd.func106.trans (congrArg some (by kernel_rfl))
  f284 := Tryd.func107.trans (congrArg some (by kernel_rfl))
  f285 := Tryd.func108.trans (congrArg some (by kernel_rfl))
  f286 := Tryd.func109.trans (congrArg some (by kernel_rfl))
  f317 := Tryd.func117.trans (congrArg some (by kernel_rfl))
  f318 := Tryd.func119.trans (congrArg some (by kernel_rfl))
  f319 := Tryd.func120.trans (congrArg some (by kernel_rfl))
  f320 := Tryd.func121.trans (congrArg some (by kernel_rfl))
  f337 := Tryd.func124.trans (congrArg some (by kernel_rfl))
  f338 := Tryd.func125.trans (congrArg some (by kernel_rfl))
  t0 := Tryd.underlying0
  a0 := Tryd.isAgg0
  z0 := Tryd.sizeOf0
  v0 := Tryd.zeroValue0
  t2 := Tryd.underlying2
  a2 := Tryd.isAgg2
  z2 := Tryd.sizeOf2
  v2 := Tryd.zeroValue2
  t3 := Tryd.underlying3
  a3 := Tryd.isAgg3
  z3 := Tryd.sizeOf3
  v3 := Tryd.zeroValue3
  t4 := Tryd.underlying4
  a4 := Tryd.isAgg4
  z4 := Tryd.sizeOf4
  v4 := Tryd.zeroValue4
  t5 := Tryd.underlying5
  a5 := Tryd.isAgg5
  z5 := Tryd.sizeOf5
  v5 := Tryd.zeroValue5
  t9 := Tryd.underlying9
  a9 := Tryd.isAgg9
  z9 := Tryd.sizeOf9
  v9 := Tryd.zeroValue9
  t20 := Tryd.underlying20
  a20 := Tryd.isAgg20
  z20 := Tryd.sizeOf20
  v20 := Tryd.zeroValue20
  t37 := Tryd.underlying22
  a37 := Tryd.isAgg22
  z37 := Tryd.sizeOf22
  v37 := Tryd.zeroValue22
  t46 := Tryd.underlying121
  a46 := Tryd.isAgg121
  z46 := Tryd.sizeOf121
  v46 := Tryd.zeroValue121
  t51 := Tryd.underlying147
  a51 := Tryd.isAgg147
  z51 := Tryd.sizeOf147
  v51 := Tryd.zeroValue147
  t53 := Tryd.underlying132
  a53 := Tryd.isAgg132
  z53 := Tryd.sizeOf132
  v53 := Tryd.zeroValue132
  t171 := Tryd.underlying131
  a171 := Tryd.isAgg131
  z171 := Tryd.sizeOf131
  v171 := Tryd.zeroValue131
  t173 := Tryd.underlying135
  a173 := Tryd.isAgg135
  z173 := Tryd.sizeOf135
  v173 := Tryd.zeroValue135
  t212 := Tryd.underlying146
  a212 := Tryd.isAgg146
  z212 := Tryd.sizeOf146
  v212 := Tryd.zeroValue146
  t213 := Tryd.underlying148
  a213 := Tryd.isAgg148
  z213 := Tryd.sizeOf148
  t232 := Tryd.underlying155
  a232 := Tryd.isAgg155
  z232 := Tryd.sizeOf155
  v232 := Tryd.zeroValue155
  t233 := Tryd.underlying156
  a233 := Tryd.isAgg156
  z233 := Tryd.sizeOf156
  v233 := Tryd.zeroValue156
  g17 := by kernel_rfl
  g18 := by kernel_rfl
  g19 := by kernel_rfl
  i0 := by kernel_rfl
  i2 := by kernel_rfl
  i3 := by kernel_rfl
  i4 := by kernel_rfl
  i5 := by kernel_rfl
  i9 := by kernel_rfl
  i20 := by kernel_rfl
  i37 := by kernel_rfl
  i46 := by kernel_rfl
  i51 := by kernel_rfl
  i53 := by kernel_rfl
  i171 := by kernel_rfl
  i173 := by kernel_rfl
  i212 := by kernel_rfl
  i232 := by kernel_rfl
  i233 := by kernel_rfl
  m17 := by kernel_rfl
  m18 := by kernel_rfl
  m19 := by kernel_rfl }
open Go.RowKit Go.Sort Go.Lib in
/-- strconv.FormatInt: "FormatInt returns the string representation of i in the given base": AT BASE 10: i's decimal numeral, for every int64. (LAID: no walk: one application.) -/
theorem Tryd.strconv_FormatInt_10 (n : Int) (h0 : -9223372036854775808 ≤ n) (h1 : n ≤ 9223372036854775807) (w : World) (htab : Lib.TabIs Tryd.prog w "internal/strconv.uint64pow10" .u64 Lib.pow10Tab) :
    Calls Tryd.prog 77 #[.int .i64 n, .int .i64 10] w fun e w' => e = .returned (.string ⟨(Lib.itoa n).toArray⟩) ∧ ∃ k os, w' = grow (w.drewN k) os := Any.strconv_FormatInt_10 Tryd.laysM173 n h0 h1 w htab
end Go.Proofs

/- The contracts of the two sides' showing of a step. -/
namespace Go.Proofs.YtogbkdhejdcpeaaDoor
namespace St
open Go.ChangeShapes Go.WideShapes Go.ChangeAt Go.RowKit

/-- The table of powers lies in w, and in every world that has grown out of it. -/
def Tab (B : Nat) (w : World) : Prop := Lib.TabBelow Tryd.prog B w "internal/strconv.uint64pow10" .u64 Lib.pow10Tab
theorem Tab.on {B : Nat} {w w1 : World} (h : Tab B w) (hb : Below B w w1) : Tab B w1 := Lib.TabBelow.on h hb

theorem box3 {w w1 : World} {x y z : Value} {t : TypeId} (hb : Below (w.alloc (.cells #[x, y, z] t)).heap.size (w.alloc (.cells #[x, y, z] t)) w1) :
    w1.cell? ⟨w.heap.size, 0, none⟩ = some x ∧ w1.cell? ⟨w.heap.size, 1, none⟩ = some y ∧ w1.cell? ⟨w.heap.size, 2, none⟩ = some z :=
  ⟨(hb.cell (by simp)).trans (by simp), (hb.cell (by simp)).trans (by simp), (hb.cell (by simp)).trans (by simp)⟩

theorem number_at (n : Int) (h0 : -9223372036854775808 ≤ n) (h1 : n ≤ 9223372036854775807) (B : Nat) (w : World) (hT : Tab B w) :
    Calls Tryd.prog 56 #[.int .i64 n] w fun e w' => e = .returned (.string ⟨(Lib.itoa n).toArray⟩) ∧ Below w.heap.size w w' := by
  have ht : Lib.TabIs Tryd.prog w "internal/strconv.uint64pow10" .u64 Lib.pow10Tab := hT.here
  have HT : Hid (Lib.TabIs Tryd.prog w "internal/strconv.uint64pow10" .u64 Lib.pow10Tab) := ht
  clear ht hT
  go_enter Tryd.func56, Tryd.ntmps56
  go_wp2_with (go_at_call 77; refine (Tryd.strconv_FormatInt_10 n h0 h1 _ HT.out).mono ?_; rintro e w' ⟨rfl, k, os, rfl⟩)
  go_ret
  refine ⟨rfl, ?_⟩
  exact Lib.below_grow _ _ (Nat.le_refl _) _ _

set_option maxHeartbeats 800000 in
theorem told1 (a b : Int) (a0 : -9223372036854775808 ≤ a) (a1 : a ≤ 9223372036854775807) (b0 : -9223372036854775808 ≤ b) (b1 : b ≤ 9223372036854775807) (B : Nat) (w : World) (hB : B ≤ w.heap.size) (hT : Tab B w) :
    Calls Tryd.prog 83 #[.agg #[.int .i64 1, .int .i64 a, .int .i64 b]] w fun e w' => e = .returned (.string ⟨(Tx.tellI 1 a b).toArray⟩) ∧ Below w.heap.size w w' := by
  have la := Lib.itoa_length_le a a0 a1
  have lb := Lib.itoa_length_le b b0 b1
  have HT : Hid (Tab B (w.alloc (.cells #[.int .i64 1, .int .i64 a, .int .i64 b] 64))) := hT.on ((Below.refl _ _).alloc hB _)
  have HB : Hid (B ≤ w.heap.size) := hB
  clear hT hB
  go_enter Tryd.func83, Tryd.ntmps83
  go_wp2_with (go_at_call 56; refine (number_at a a0 a1 B _ HT.out).mono ?_; rintro e w1 ⟨rfl, hb1⟩)
  go_ret
  exact ⟨retS (str_eq (by simp [Tx.tellI, Tx.cnt])), below_over (by go_grown) hb1⟩

set_option maxHeartbeats 800000 in
theorem told2 (a b : Int) (a0 : -9223372036854775808 ≤ a) (a1 : a ≤ 9223372036854775807) (b0 : -9223372036854775808 ≤ b) (b1 : b ≤ 9223372036854775807) (B : Nat) (w : World) (hB : B ≤ w.heap.size) (hT : Tab B w) :
    Calls Tryd.prog 83 #[.agg #[.int .i64 2, .int .i64 a, .int .i64 b]] w fun e w' => e = .returned (.string ⟨(Tx.tellI 2 a b).toArray⟩) ∧ Below w.heap.size w w' := by
  have la := Lib.itoa_length_le a a0 a1
  have lb := Lib.itoa_length_le b b0 b1
  have HT : Hid (Tab B (w.alloc (.cells #[.int .i64 2, .int .i64 a, .int .i64 b] 64))) := hT.on ((Below.refl _ _).alloc hB _)
  have HB : Hid (B ≤ w.heap.size) := hB
  clear hT hB
  go_enter Tryd.func83, Tryd.ntmps83
  go_wp2_with (go_at_call 56; refine (number_at a a0 a1 B _ HT.out).mono ?_; rintro e w1 ⟨rfl, hb1⟩)
  go_ret
  exact ⟨retS (str_eq (by simp [Tx.tellI, Tx.cnt])), below_over (by go_grown) hb1⟩

set_option maxHeartbeats 800000 in
theorem told3 (a b : Int) (a0 : -9223372036854775808 ≤ a) (a1 : a ≤ 9223372036854775807) (b0 : -9223372036854775808 ≤ b) (b1 : b ≤ 9223372036854775807) (B : Nat) (w : World) (hB : B ≤ w.heap.size) (hT : Tab B w) :
    Calls Tryd.prog 83 #[.agg #[.int .i64 3, .int .i64 a, .int .i64 b]] w fun e w' => e = .returned (.string ⟨(Tx.tellI 3 a b).toArray⟩) ∧ Below w.heap.size w w' := by
  have la := Lib.itoa_length_le a a0 a1
  have lb := Lib.itoa_length_le b b0 b1
  have HT : Hid (Tab B (w.alloc (.cells #[.int .i64 3, .int .i64 a, .int .i64 b] 64))) := hT.on ((Below.refl _ _).alloc hB _)
  have HB : Hid (B ≤ w.heap.size) := hB
  clear hT hB
  go_enter Tryd.func83, Tryd.ntmps83
  go_wp2_with (go_at_call 56; refine (number_at a a0 a1 B _ HT.out).mono ?_; rintro e w1 ⟨rfl, hb1⟩)
  go_ret
  exact ⟨retS (str_eq (by simp [Tx.tellI, Tx.cnt])), below_over (by go_grown) hb1⟩

set_option maxHeartbeats 800000 in
theorem told4 (a b : Int) (a0 : -9223372036854775808 ≤ a) (a1 : a ≤ 9223372036854775807) (b0 : -9223372036854775808 ≤ b) (b1 : b ≤ 9223372036854775807) (B : Nat) (w : World) (hB : B ≤ w.heap.size) (hT : Tab B w) :
    Calls Tryd.prog 83 #[.agg #[.int .i64 4, .int .i64 a, .int .i64 b]] w fun e w' => e = .returned (.string ⟨(Tx.tellI 4 a b).toArray⟩) ∧ Below w.heap.size w w' := by
  have la := Lib.itoa_length_le a a0 a1
  have lb := Lib.itoa_length_le b b0 b1
  have HT : Hid (Tab B (w.alloc (.cells #[.int .i64 4, .int .i64 a, .int .i64 b] 64))) := hT.on ((Below.refl _ _).alloc hB _)
  have HB : Hid (B ≤ w.heap.size) := hB
  clear hT hB
  go_enter Tryd.func83, Tryd.ntmps83
  go_wp2
  go_ret
  exact ⟨rfl, by go_grown⟩

set_option maxHeartbeats 800000 in
theorem told5 (a b : Int) (a0 : -9223372036854775808 ≤ a) (a1 : a ≤ 9223372036854775807) (b0 : -9223372036854775808 ≤ b) (b1 : b ≤ 9223372036854775807) (B : Nat) (w : World) (hB : B ≤ w.heap.size) (hT : Tab B w) :
    Calls Tryd.prog 83 #[.agg #[.int .i64 5, .int .i64 a, .int .i64 b]] w fun e w' => e = .returned (.string ⟨(Tx.tellI 5 a b).toArray⟩) ∧ Below w.heap.size w w' := by
  have la := Lib.itoa_length_le a a0 a1
  have lb := Lib.itoa_length_le b b0 b1
  have HT : Hid (Tab B (w.alloc (.cells #[.int .i64 5, .int .i64 a, .int .i64 b] 64))) := hT.on ((Below.refl _ _).alloc hB _)
  have HB : Hid (B ≤ w.heap.size) := hB
  clear hT hB
  go_enter Tryd.func83, Tryd.ntmps83
  go_wp2
  go_ret
  exact ⟨rfl, by go_grown⟩

set_option maxHeartbeats 800000 in
theorem told6 (a b : Int) (a0 : -9223372036854775808 ≤ a) (a1 : a ≤ 9223372036854775807) (b0 : -9223372036854775808 ≤ b) (b1 : b ≤ 9223372036854775807) (B : Nat) (w : World) (hB : B ≤ w.heap.size) (hT : Tab B w) :
    Calls Tryd.prog 83 #[.agg #[.int .i64 6, .int .i64 a, .int .i64 b]] w fun e w' => e = .returned (.string ⟨(Tx.tellI 6 a b).toArray⟩) ∧ Below w.heap.size w w' := by
  have la := Lib.itoa_length_le a a0 a1
  have lb := Lib.itoa_length_le b b0 b1
  have HT : Hid (Tab B (w.alloc (.cells #[.int .i64 6, .int .i64 a, .int .i64 b] 64))) := hT.on ((Below.refl _ _).alloc hB _)
  have HB : Hid (B ≤ w.heap.size) := hB
  clear hT hB
  go_enter Tryd.func83, Tryd.ntmps83
  go_wp2
  go_ret
  exact ⟨rfl, by go_grown⟩

set_option maxHeartbeats 800000 in
theorem told7 (a b : Int) (a0 : -9223372036854775808 ≤ a) (a1 : a ≤ 9223372036854775807) (b0 : -9223372036854775808 ≤ b) (b1 : b ≤ 9223372036854775807) (B : Nat) (w : World) (hB : B ≤ w.heap.size) (hT : Tab B w) :
    Calls Tryd.prog 83 #[.agg #[.int .i64 7, .int .i64 a, .int .i64 b]] w fun e w' => e = .returned (.string ⟨(Tx.tellI 7 a b).toArray⟩) ∧ Below w.heap.size w w' := by
  have la := Lib.itoa_length_le a a0 a1
  have lb := Lib.itoa_length_le b b0 b1
  have HT : Hid (Tab B (w.alloc (.cells #[.int .i64 7, .int .i64 a, .int .i64 b] 64))) := hT.on ((Below.refl _ _).alloc hB _)
  have HB : Hid (B ≤ w.heap.size) := hB
  clear hT hB
  go_enter Tryd.func83, Tryd.ntmps83
  go_wp2
  go_ret
  exact ⟨rfl, by go_grown⟩

set_option maxHeartbeats 800000 in
theorem told8 (a b : Int) (a0 : -9223372036854775808 ≤ a) (a1 : a ≤ 9223372036854775807) (b0 : -9223372036854775808 ≤ b) (b1 : b ≤ 9223372036854775807) (B : Nat) (w : World) (hB : B ≤ w.heap.size) (hT : Tab B w) :
    Calls Tryd.prog 83 #[.agg #[.int .i64 8, .int .i64 a, .int .i64 b]] w fun e w' => e = .returned (.string ⟨(Tx.tellI 8 a b).toArray⟩) ∧ Below w.heap.size w w' := by
  have la := Lib.itoa_length_le a a0 a1
  have lb := Lib.itoa_length_le b b0 b1
  have HT : Hid (Tab B (w.alloc (.cells #[.int .i64 8, .int .i64 a, .int .i64 b] 64))) := hT.on ((Below.refl _ _).alloc hB _)
  have HB : Hid (B ≤ w.heap.size) := hB
  clear hT hB
  go_enter Tryd.func83, Tryd.ntmps83
  go_wp2
  go_ret
  exact ⟨rfl, by go_grown⟩

set_option maxHeartbeats 800000 in
theorem told9 (a b : Int) (a0 : -9223372036854775808 ≤ a) (a1 : a ≤ 9223372036854775807) (b0 : -9223372036854775808 ≤ b) (b1 : b ≤ 9223372036854775807) (B : Nat) (w : World) (hB : B ≤ w.heap.size) (hT : Tab B w) :
    Calls Tryd.prog 83 #[.agg #[.int .i64 9, .int .i64 a, .int .i64 b]] w fun e w' => e = .returned (.string ⟨(Tx.tellI 9 a b).toArray⟩) ∧ Below w.heap.size w w' := by
  have la := Lib.itoa_length_le a a0 a1
  have lb := Lib.itoa_length_le b b0 b1
  have HT : Hid (Tab B (w.alloc (.cells #[.int .i64 9, .int .i64 a, .int .i64 b] 64))) := hT.on ((Below.refl _ _).alloc hB _)
  have HB : Hid (B ≤ w.heap.size) := hB
  clear hT hB
  go_enter Tryd.func83, Tryd.ntmps83
  go_wp2
  go_ret
  exact ⟨rfl, by go_grown⟩

set_option maxHeartbeats 800000 in
theorem told10 (a b : Int) (a0 : -9223372036854775808 ≤ a) (a1 : a ≤ 9223372036854775807) (b0 : -9223372036854775808 ≤ b) (b1 : b ≤ 9223372036854775807) (B : Nat) (w : World) (hB : B ≤ w.heap.size) (hT : Tab B w) :
    Calls Tryd.prog 83 #[.agg #[.int .i64 10, .int .i64 a, .int .i64 b]] w fun e w' => e = .returned (.string ⟨(Tx.tellI 10 a b).toArray⟩) ∧ Below w.heap.size w w' := by
  have la := Lib.itoa_length_le a a0 a1
  have lb := Lib.itoa_length_le b b0 b1
  have HT : Hid (Tab B (w.alloc (.cells #[.int .i64 10, .int .i64 a, .int .i64 b] 64))) := hT.on ((Below.refl _ _).alloc hB _)
  have HB : Hid (B ≤ w.heap.size) := hB
  clear hT hB
  go_enter Tryd.func83, Tryd.ntmps83
  go_wp2
  go_ret
  exact ⟨rfl, by go_grown⟩

set_option maxHeartbeats 800000 in
theorem told11 (a b : Int) (a0 : -9223372036854775808 ≤ a) (a1 : a ≤ 9223372036854775807) (b0 : -9223372036854775808 ≤ b) (b1 : b ≤ 9223372036854775807) (B : Nat) (w : World) (hB : B ≤ w.heap.size) (hT : Tab B w) :
    Calls Tryd.prog 83 #[.agg #[.int .i64 11, .int .i64 a, .int .i64 b]] w fun e w' => e = .returned (.string ⟨(Tx.tellI 11 a b).toArray⟩) ∧ Below w.heap.size w w' := by
  have la := Lib.itoa_length_le a a0 a1
  have lb := Lib.itoa_length_le b b0 b1
  have HT : Hid (Tab B (w.alloc (.cells #[.int .i64 11, .int .i64 a, .int .i64 b] 64))) := hT.on ((Below.refl _ _).alloc hB _)
  have HB : Hid (B ≤ w.heap.size) := hB
  clear hT hB
  go_enter Tryd.func83, Tryd.ntmps83
  go_wp2_with (go_at_call 56; refine (number_at a a0 a1 B _ HT.out).mono ?_; rintro e w1 ⟨rfl, hb1⟩)
  go_ret
  exact ⟨retS (str_eq (by simp [Tx.tellI, Tx.cnt])), below_over (by go_grown) hb1⟩

set_option maxHeartbeats 800000 in
theorem told12 (a b : Int) (a0 : -9223372036854775808 ≤ a) (a1 : a ≤ 9223372036854775807) (b0 : -9223372036854775808 ≤ b) (b1 : b ≤ 9223372036854775807) (B : Nat) (w : World) (hB : B ≤ w.heap.size) (hT : Tab B w) :
    Calls Tryd.prog 83 #[.agg #[.int .i64 12, .int .i64 a, .int .i64 b]] w fun e w' => e = .returned (.string ⟨(Tx.tellI 12 a b).toArray⟩) ∧ Below w.heap.size w w' := by
  have la := Lib.itoa_length_le a a0 a1
  have lb := Lib.itoa_length_le b b0 b1
  have HT : Hid (Tab B (w.alloc (.cells #[.int .i64 12, .int .i64 a, .int .i64 b] 64))) := hT.on ((Below.refl _ _).alloc hB _)
  have HB : Hid (B ≤ w.heap.size) := hB
  clear hT hB
  go_enter Tryd.func83, Tryd.ntmps83
  go_wp2_with (go_at_call 56; refine (number_at a a0 a1 B _ HT.out).mono ?_; rintro e w1 ⟨rfl, hb1⟩)
  go_ret
  exact ⟨retS (str_eq (by simp [Tx.tellI, Tx.cnt])), below_over (by go_grown) hb1⟩

set_option maxHeartbeats 800000 in
theorem told13 (a b : Int) (a0 : -9223372036854775808 ≤ a) (a1 : a ≤ 9223372036854775807) (b0 : -9223372036854775808 ≤ b) (b1 : b ≤ 9223372036854775807) (B : Nat) (w : World) (hB : B ≤ w.heap.size) (hT : Tab B w) :
    Calls Tryd.prog 83 #[.agg #[.int .i64 13, .int .i64 a, .int .i64 b]] w fun e w' => e = .returned (.string ⟨(Tx.tellI 13 a b).toArray⟩) ∧ Below w.heap.size w w' := by
  have la := Lib.itoa_length_le a a0 a1
  have lb := Lib.itoa_length_le b b0 b1
  have HT : Hid (Tab B (w.alloc (.cells #[.int .i64 13, .int .i64 a, .int .i64 b] 64))) := hT.on ((Below.refl _ _).alloc hB _)
  have HB : Hid (B ≤ w.heap.size) := hB
  clear hT hB
  go_enter Tryd.func83, Tryd.ntmps83
  go_wp2
  go_ret
  exact ⟨rfl, by go_grown⟩

set_option maxHeartbeats 800000 in
theorem told14 (a b : Int) (a0 : -9223372036854775808 ≤ a) (a1 : a ≤ 9223372036854775807) (b0 : -9223372036854775808 ≤ b) (b1 : b ≤ 9223372036854775807) (B : Nat) (w : World) (hB : B ≤ w.heap.size) (hT : Tab B w) :
    Calls Tryd.prog 83 #[.agg #[.int .i64 14, .int .i64 a, .int .i64 b]] w fun e w' => e = .returned (.string ⟨(Tx.tellI 14 a b).toArray⟩) ∧ Below w.heap.size w w' := by
  have la := Lib.itoa_length_le a a0 a1
  have lb := Lib.itoa_length_le b b0 b1
  have HT : Hid (Tab B (w.alloc (.cells #[.int .i64 14, .int .i64 a, .int .i64 b] 64))) := hT.on ((Below.refl _ _).alloc hB _)
  have HB : Hid (B ≤ w.heap.size) := hB
  clear hT hB
  go_enter Tryd.func83, Tryd.ntmps83
  go_wp2_with (go_at_call 56; refine (number_at a a0 a1 B _ HT.out).mono ?_; rintro e w1 ⟨rfl, hb1⟩)
  go_ret
  exact ⟨retS (str_eq (by simp [Tx.tellI, Tx.cnt])), below_over (by go_grown) hb1⟩

set_option maxHeartbeats 800000 in
theorem told15 (a b : Int) (a0 : -9223372036854775808 ≤ a) (a1 : a ≤ 9223372036854775807) (b0 : -9223372036854775808 ≤ b) (b1 : b ≤ 9223372036854775807) (B : Nat) (w : World) (hB : B ≤ w.heap.size) (hT : Tab B w) :
    Calls Tryd.prog 83 #[.agg #[.int .i64 15, .int .i64 a, .int .i64 b]] w fun e w' => e = .returned (.string ⟨(Tx.tellI 15 a b).toArray⟩) ∧ Below w.heap.size w w' := by
  have la := Lib.itoa_length_le a a0 a1
  have lb := Lib.itoa_length_le b b0 b1
  have HT : Hid (Tab B (w.alloc (.cells #[.int .i64 15, .int .i64 a, .int .i64 b] 64))) := hT.on ((Below.refl _ _).alloc hB _)
  have HB : Hid (B ≤ w.heap.size) := hB
  clear hT hB
  go_enter Tryd.func83, Tryd.ntmps83
  go_wp2_with fail
  refine (number_at b b0 b1 B _ HT.out).mono ?_
  rintro e w1 ⟨rfl, hb1⟩
  have hc := (box3 hb1).2.1
  have HT1 : Hid (Tab B w1) := HT.out.on (hb1.mono (by have := HB.out; simp; omega))
  go_wp2_with (go_at_call 56; refine (number_at a a0 a1 B _ HT1.out).mono ?_; rintro e w2 ⟨rfl, hb2⟩)
  go_ret
  exact ⟨retS (str_eq (by simp [Tx.tellI, Tx.cnt])), below_over (below_over (by go_grown) hb1) hb2⟩

set_option maxHeartbeats 800000 in
theorem told16 (a b : Int) (a0 : -9223372036854775808 ≤ a) (a1 : a ≤ 9223372036854775807) (b0 : -9223372036854775808 ≤ b) (b1 : b ≤ 9223372036854775807) (B : Nat) (w : World) (hB : B ≤ w.heap.size) (hT : Tab B w) :
    Calls Tryd.prog 83 #[.agg #[.int .i64 16, .int .i64 a, .int .i64 b]] w fun e w' => e = .returned (.string ⟨(Tx.tellI 16 a b).toArray⟩) ∧ Below w.heap.size w w' := by
  have la := Lib.itoa_length_le a a0 a1
  have lb := Lib.itoa_length_le b b0 b1
  have HT : Hid (Tab B (w.alloc (.cells #[.int .i64 16, .int .i64 a, .int .i64 b] 64))) := hT.on ((Below.refl _ _).alloc hB _)
  have HB : Hid (B ≤ w.heap.size) := hB
  clear hT hB
  go_enter Tryd.func83, Tryd.ntmps83
  go_wp2_with fail
  refine (number_at b b0 b1 B _ HT.out).mono ?_
  rintro e w1 ⟨rfl, hb1⟩
  have hc := (box3 hb1).2.1
  have HT1 : Hid (Tab B w1) := HT.out.on (hb1.mono (by have := HB.out; simp; omega))
  go_wp2_with (go_at_call 56; refine (number_at a a0 a1 B _ HT1.out).mono ?_; rintro e w2 ⟨rfl, hb2⟩)
  go_ret
  exact ⟨retS (str_eq (by simp [Tx.tellI, Tx.cnt])), below_over (below_over (by go_grown) hb1) hb2⟩

set_option maxHeartbeats 800000 in
theorem told17 (a b : Int) (a0 : -9223372036854775808 ≤ a) (a1 : a ≤ 9223372036854775807) (b0 : -9223372036854775808 ≤ b) (b1 : b ≤ 9223372036854775807) (B : Nat) (w : World) (hB : B ≤ w.heap.size) (hT : Tab B w) :
    Calls Tryd.prog 83 #[.agg #[.int .i64 17, .int .i64 a, .int .i64 b]] w fun e w' => e = .returned (.string ⟨(Tx.tellI 17 a b).toArray⟩) ∧ Below w.heap.size w w' := by
  have la := Lib.itoa_length_le a a0 a1
  have lb := Lib.itoa_length_le b b0 b1
  have HT : Hid (Tab B (w.alloc (.cells #[.int .i64 17, .int .i64 a, .int .i64 b] 64))) := hT.on ((Below.refl _ _).alloc hB _)
  have HB : Hid (B ≤ w.heap.size) := hB
  clear hT hB
  go_enter Tryd.func83, Tryd.ntmps83
  go_wp2_with fail
  refine (number_at b b0 b1 B _ HT.out).mono ?_
  rintro e w1 ⟨rfl, hb1⟩
  have hc := (box3 hb1).2.1
  have HT1 : Hid (Tab B w1) := HT.out.on (hb1.mono (by have := HB.out; simp; omega))
  go_wp2_with (go_at_call 56; refine (number_at a a0 a1 B _ HT1.out).mono ?_; rintro e w2 ⟨rfl, hb2⟩)
  go_ret
  exact ⟨retS (str_eq (by simp [Tx.tellI, Tx.cnt])), below_over (below_over (by go_grown) hb1) hb2⟩

set_option maxHeartbeats 800000 in
theorem told18 (a b : Int) (a0 : -9223372036854775808 ≤ a) (a1 : a ≤ 9223372036854775807) (b0 : -9223372036854775808 ≤ b) (b1 : b ≤ 9223372036854775807) (B : Nat) (w : World) (hB : B ≤ w.heap.size) (hT : Tab B w) :
    Calls Tryd.prog 83 #[.agg #[.int .i64 18, .int .i64 a, .int .i64 b]] w fun e w' => e = .returned (.string ⟨(Tx.tellI 18 a b).toArray⟩) ∧ Below w.heap.size w w' := by
  have la := Lib.itoa_length_le a a0 a1
  have lb := Lib.itoa_length_le b b0 b1
  have HT : Hid (Tab B (w.alloc (.cells #[.int .i64 18, .int .i64 a, .int .i64 b] 64))) := hT.on ((Below.refl _ _).alloc hB _)
  have HB : Hid (B ≤ w.heap.size) := hB
  clear hT hB
  go_enter Tryd.func83, Tryd.ntmps83
  go_wp2
  go_ret
  exact ⟨rfl, by go_grown⟩

set_option maxHeartbeats 800000 in
theorem told19 (a b : Int) (a0 : -9223372036854775808 ≤ a) (a1 : a ≤ 9223372036854775807) (b0 : -9223372036854775808 ≤ b) (b1 : b ≤ 9223372036854775807) (B : Nat) (w : World) (hB : B ≤ w.heap.size) (hT : Tab B w) :
    Calls Tryd.prog 83 #[.agg #[.int .i64 19, .int .i64 a, .int .i64 b]] w fun e w' => e = .returned (.string ⟨(Tx.tellI 19 a b).toArray⟩) ∧ Below w.heap.size w w' := by
  have la := Lib.itoa_length_le a a0 a1
  have lb := Lib.itoa_length_le b b0 b1
  have HT : Hid (Tab B (w.alloc (.cells #[.int .i64 19, .int .i64 a, .int .i64 b] 64))) := hT.on ((Below.refl _ _).alloc hB _)
  have HB : Hid (B ≤ w.heap.size) := hB
  clear hT hB
  go_enter Tryd.func83, Tryd.ntmps83
  go_wp2
  go_ret
  exact ⟨rfl, by go_grown⟩

set_option maxHeartbeats 800000 in
theorem told20 (a b : Int) (a0 : -9223372036854775808 ≤ a) (a1 : a ≤ 9223372036854775807) (b0 : -9223372036854775808 ≤ b) (b1 : b ≤ 9223372036854775807) (B : Nat) (w : World) (hB : B ≤ w.heap.size) (hT : Tab B w) :
    Calls Tryd.prog 83 #[.agg #[.int .i64 20, .int .i64 a, .int .i64 b]] w fun e w' => e = .returned (.string ⟨(Tx.tellI 20 a b).toArray⟩) ∧ Below w.heap.size w w' := by
  have la := Lib.itoa_length_le a a0 a1
  have lb := Lib.itoa_length_le b b0 b1
  have HT : Hid (Tab B (w.alloc (.cells #[.int .i64 20, .int .i64 a, .int .i64 b] 64))) := hT.on ((Below.refl _ _).alloc hB _)
  have HB : Hid (B ≤ w.heap.size) := hB
  clear hT hB
  go_enter Tryd.func83, Tryd.ntmps83
  go_wp2
  go_ret
  exact ⟨rfl, by go_grown⟩

end St
end Go.Proofs.YtogbkdhejdcpeaaDoor

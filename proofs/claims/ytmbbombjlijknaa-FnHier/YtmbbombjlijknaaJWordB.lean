/- The cursor over the drawn bytes: what it is, and the plain facts on it. -/
import Derived.Test.YtmbbombjlijknaaRows
import Derived.WalkKit
import Derived.ProofKit
import Derived.Below
import Derived.Laws.Bits128
import Derived.WalkLawsBesides
import Derived.WalkSpells
import Derived.BigQuiet
import Derived.Deep.QuietTactic
import Derived.OpenShut
namespace Go.Proofs.Ytmbbombjlijknaa
namespace Cu
open Go.ChangeShapes Go.WideShapes Go.ChangeAt Go.RowKit

theorem and255 (n : Int) : bits .and .i64 n 255 = n % 256 := by
  have h255 : (BitVec.ofInt 64 255).toNat = 2 ^ 8 - 1 := by decide
  have key : (BitVec.ofInt 64 n &&& BitVec.ofInt 64 255).toNat = (n % ((2 ^ 64 : Nat) : Int)).toNat % 2 ^ 8 := by
    rw [BitVec.toNat_and, BitVec.toNat_ofInt, h255, Nat.and_two_pow_sub_one_eq_mod]
  show IntKind.i64.wrap ((BitVec.ofInt 64 n &&& BitVec.ofInt 64 255).toNat : Nat) = n % 256
  rw [key, IntKind.wrap_i64]
  omega
theorem and30 (n : Int) : bits .and .i64 n 1073741823 = n % 1073741824 := by
  have h30 : (BitVec.ofInt 64 1073741823).toNat = 2 ^ 30 - 1 := by decide
  have key : (BitVec.ofInt 64 n &&& BitVec.ofInt 64 1073741823).toNat = (n % ((2 ^ 64 : Nat) : Int)).toNat % 2 ^ 30 := by
    rw [BitVec.toNat_and, BitVec.toNat_ofInt, h30, Nat.and_two_pow_sub_one_eq_mod]
  show IntKind.i64.wrap ((BitVec.ofInt 64 n &&& BitVec.ofInt 64 1073741823).toNat : Nat) = n % 1073741824
  rw [key, IntKind.wrap_i64]
  omega
theorem and255_bd (n : Int) : 0 ≤ bits .and .i64 n 255 ∧ bits .and .i64 n 255 ≤ 255 := by
  rw [and255]; omega
theorem and30_bd (n : Int) : 0 ≤ bits .and .i64 n 1073741823 ∧ bits .and .i64 n 1073741823 ≤ 1073741823 := by
  rw [and30]; omega

/-- The bytes that came in: a row of at most 4096 cells below block B. -/
def Bytes (B : Nat) (w : World) (a : Option Addr) (len : Nat) : Prop :=
  len ≤ 4096 ∧ ∀ j, j < len → ∃ b off : Nat, ∃ z : Int, a = some ⟨b, off, none⟩ ∧ b < B ∧ w.cell? ⟨b, off + j, none⟩ = some (.int .u8 z) ∧ 0 ≤ z ∧ z ≤ 255

theorem Bytes.below {B : Nat} {w w' : World} {a : Option Addr} {len : Nat} (h : Bytes B w a len) (hb : Below B w w') : Bytes B w' a len :=
  ⟨h.1, fun j hj => by
    obtain ⟨b, off, z, ha, hB, hc, h0, h1⟩ := h.2 j hj
    exact ⟨b, off, z, ha, hB, (hb.cell (p := ⟨b, off + j, none⟩) hB).trans hc, h0, h1⟩⟩

/-- A cursor in block c, not below B, over bytes that lie below B. -/
def Cur (B : Nat) (w : World) (c : Nat) (a : Option Addr) (len cap : Nat) : Prop :=
  B ≤ c ∧ c < w.heap.size ∧ w.cell? ⟨c, 0, none⟩ = some (.slice a len cap) ∧
  (∃ i : Nat, i ≤ len ∧ w.cell? ⟨c, 1, none⟩ = some (.int .i64 i)) ∧
  (∃ h : Int, w.cell? ⟨c, 2, none⟩ = some (.int .i64 h)) ∧
  w.frozen? ⟨c, 1, none⟩ = false ∧ w.frozen? ⟨c, 2, none⟩ = false ∧ Bytes B w a len

/-- No block but c has turned, and none has gone. -/
structure Touch (c : Nat) (w w' : World) : Prop where
  os : w'.os = w.os
  tape : w'.tape = w.tape
  output : w'.output = w.output
  size : w.heap.size ≤ w'.heap.size
  block : ∀ k, k < w.heap.size → k ≠ c → w'.heap[k]? = w.heap[k]?
theorem Touch.refl (c : Nat) (w : World) : Touch c w w := ⟨rfl, rfl, rfl, Nat.le_refl _, fun _ _ _ => rfl⟩
theorem Touch.trans {c : Nat} {u v w : World} (h : Touch c u v) (k : Touch c v w) : Touch c u w :=
  ⟨k.os.trans h.os, k.tape.trans h.tape, k.output.trans h.output, Nat.le_trans h.size k.size, fun i hi hc => (k.block i (Nat.lt_of_lt_of_le hi h.size) hc).trans (h.block i hi hc)⟩
theorem Touch.drewN {c : Nat} {u w : World} (h : Touch c u w) (n : Nat) : Touch c u (w.drewN n) := ⟨h.os, h.tape, h.output, h.size, h.block⟩
theorem Touch.drew {c : Nat} {u w : World} (h : Touch c u w) : Touch c u w.drew := ⟨h.os, h.tape, h.output, h.size, h.block⟩
theorem Touch.setCell {c : Nat} {u w : World} (h : Touch c u w) (o : Nat) (v : Value) : Touch c u (w.setCell ⟨c, o, none⟩ v) := by
  have hb := (Below.refl c w).setCell (p := ⟨c, o, none⟩) (Nat.le_refl c) v
  exact h.trans ⟨hb.os, hb.tape, hb.output, hb.size, fun k _ hc => Below.heap_setCell w _ _ k hc⟩
theorem Touch.alloc {c : Nat} {u w : World} (h : Touch c u w) (o : Obj) : Touch c u (w.alloc o) := by
  have hb := (Below.refl w.heap.size w).alloc (Nat.le_refl _) o
  exact h.trans ⟨hb.os, hb.tape, hb.output, hb.size, fun k hk _ => hb.block k hk⟩
theorem Touch.below {c B : Nat} {u w : World} (h : Touch c u w) (hc : B ≤ c) (hs : B ≤ u.heap.size) : Below B u w :=
  ⟨h.os, h.tape, h.output, h.size, fun k hk => h.block k (by omega) (by omega)⟩
theorem Touch.cell {c : Nat} {u w : World} (h : Touch c u w) {p : Addr} (hp : p.block < u.heap.size) (hc : p.block ≠ c) : w.cell? p = u.cell? p := World.cell?_of_block (w := u) (h.block p.block hp hc)

/-- What lies below the cursor's own block, and the cursor's block itself, is as it was. -/
theorem Cur.later {B c : Nat} {w w' : World} {a : Option Addr} {len cap : Nat} (h : Cur B w c a len cap) {B' : Nat} (hb : Below B' w w') (hB : c < B') : Cur B w' c a len cap := by
  obtain ⟨h0, h1, h2, ⟨i, hi, h3⟩, ⟨g, h4⟩, h5, h6, h7⟩ := h
  have cc := fun o => hb.cell (p := ⟨c, o, none⟩) hB
  have ff := fun o => hb.frozen (p := ⟨c, o, none⟩) hB
  exact ⟨h0, Nat.lt_of_lt_of_le h1 hb.size, (cc 0).trans h2, ⟨i, hi, (cc 1).trans h3⟩, ⟨g, (cc 2).trans h4⟩, (ff 1).trans h5, (ff 2).trans h6, h7.below (hb.mono (by omega))⟩
theorem Cur.alloc {B c : Nat} {w : World} {a : Option Addr} {len cap : Nat} (h : Cur B w c a len cap) (o : Obj) : Cur B (w.alloc o) c a len cap :=
  h.later ((Below.refl w.heap.size w).alloc (Nat.le_refl _) o) h.2.1
theorem Cur.set2 {B c : Nat} {w : World} {a : Option Addr} {len cap : Nat} (h : Cur B w c a len cap) (g : Int) : Cur B (w.setCell ⟨c, 2, none⟩ (.int .i64 g)) c a len cap := by
  obtain ⟨h0, h1, h2, ⟨i, hi, h3⟩, ⟨g0, h4⟩, h5, h6, h7⟩ := h
  have hb : Below B w (w.setCell ⟨c, 2, none⟩ (.int .i64 g)) := (Below.refl B w).setCell (p := ⟨c, 2, none⟩) h0 _
  exact ⟨h0, Nat.lt_of_lt_of_le h1 hb.size, by simp [go_sem, h2], ⟨i, hi, by simp [go_sem, h3]⟩, ⟨g, by simp [go_sem, h4]⟩, by simp [go_sem, h5], by simp [go_sem, h6], h7.below hb⟩
theorem Cur.set1 {B c : Nat} {w : World} {a : Option Addr} {len cap : Nat} (h : Cur B w c a len cap) (k : Nat) (hk : k ≤ len) (v : Int) (hv : v = (k : Int)) : Cur B (w.setCell ⟨c, 1, none⟩ (.int .i64 v)) c a len cap := by
  subst hv
  obtain ⟨h0, h1, h2, ⟨i, hi, h3⟩, ⟨g0, h4⟩, h5, h6, h7⟩ := h
  have hb : Below B w (w.setCell ⟨c, 1, none⟩ (.int .i64 k)) := (Below.refl B w).setCell (p := ⟨c, 1, none⟩) h0 _
  exact ⟨h0, Nat.lt_of_lt_of_le h1 hb.size, by simp [go_sem, h2], ⟨k, hk, by simp [go_sem, h3]⟩, ⟨g0, by simp [go_sem, h4]⟩, by simp [go_sem, h5], by simp [go_sem, h6], h7.below hb⟩
theorem Cur.drewN {B c : Nat} {w : World} {a : Option Addr} {len cap : Nat} (h : Cur B w c a len cap) (n : Nat) : Cur B (w.drewN n) c a len cap := h
end Cu
end Go.Proofs.Ytmbbombjlijknaa

/- The contract of the cursor's next byte. -/
namespace Go.Proofs.Ytmbbombjlijknaa
namespace Cu
open Go.ChangeShapes Go.WideShapes Go.ChangeAt Go.RowKit

set_option maxHeartbeats 400000 in
theorem byte_any (B c : Nat) (w : World) (a : Option Addr) (len cap : Nat) (hcur : Cur B w c a len cap) :
    Calls Try.prog 86 #[.pointer (some ⟨c, 0, none⟩)] w fun e w' => ∃ r : Int, e = .returned (.int .i64 r) ∧ 0 ≤ r ∧ r ≤ 255 ∧ Touch c w w' ∧ Cur B w' c a len cap := by
  have HC : Hid (Cur B w c a len cap) := hcur
  obtain ⟨h0, h1, h2, ⟨i, hi, h3⟩, ⟨g, h4⟩, h5, h6, hB⟩ := hcur
  by_cases hlt : i < len
  · obtain ⟨b, off, z, rfl, hbB, hcz, hz0, hz1⟩ := hB.2 i hlt
    have hlt' : (i : Int) < (len : Int) := by omega
    have hl := hB.1
    go_enter Try.func86, Try.ntmps86
    go_wp2
    go_quiet (fail)
    go_wp2
    go_quiet (fail)
    go_wp2
    go_quiet (fail)
    go_wp2
    go_ret
    refine ⟨_, rfl, ?_, ?_, ?_, ?_⟩
    · exact (and255_bd _).1
    · exact (and255_bd _).2
    · exact (((Touch.refl c w).setCell 2 _).drewN _).setCell 1 _
    · exact ((HC.out.set2 _).drewN _).set1 (i + 1) (by omega) _ (by omega)
  · have hlt' : ¬ (i : Int) < (len : Int) := by omega
    go_enter Try.func86, Try.ntmps86
    go_wp2
    go_quiet (fail)
    go_wp2
    go_quiet (fail)
    go_wp2
    go_ret
    refine ⟨_, rfl, ?_, ?_, ?_, ?_⟩
    · exact (and255_bd _).1
    · exact (and255_bd _).2
    · exact (((Touch.refl c w).setCell 2 _).drewN _).drewN _
    · exact ((HC.out.set2 _).drewN _).drewN _
end Cu
end Go.Proofs.Ytmbbombjlijknaa

/- The contracts of the cursor's numbers below a bound, and of its coin. -/
namespace Go.Proofs.Ytmbbombjlijknaa
namespace Cu
open Go.ChangeShapes Go.WideShapes Go.ChangeAt Go.RowKit

theorem mod_bd (x n : Int) (h0 : 0 ≤ x) (hn : 0 < n) : 0 ≤ x % n ∧ x % n < n ∧ x % n ≤ x := by
  have h1 := Int.emod_nonneg x (show n ≠ 0 by omega)
  have h2 := Int.emod_lt_of_pos x hn
  refine ⟨h1, h2, ?_⟩
  by_cases h : x < n
  · rw [Int.emod_eq_of_lt h0 h]; omega
  · omega

/-- Since w0 no block but the cursor's has turned, and the cursor stands. -/
def At (B : Nat) (w0 w : World) (c : Nat) (a : Option Addr) (len cap : Nat) : Prop := Touch c w0 w ∧ Cur B w c a len cap

theorem byte_at (B c : Nat) (w0 w : World) (a : Option Addr) (len cap : Nat) (h : At B w0 w c a len cap) :
    Calls Try.prog 86 #[.pointer (some ⟨c, 0, none⟩)] w fun e w' => ∃ r : Int, e = .returned (.int .i64 r) ∧ 0 ≤ r ∧ r ≤ 255 ∧ At B w0 w' c a len cap := by
  refine (byte_any B c w a len cap h.2).mono ?_
  rintro e w' ⟨r, he, h0, h1, hb, hc⟩
  exact ⟨r, he, h0, h1, h.1.trans hb, hc⟩

set_option maxHeartbeats 400000 in
theorem below_no (B c : Nat) (w0 w : World) (a : Option Addr) (len cap : Nat) (n : Int) (h : At B w0 w c a len cap) (hn : n ≤ 0) :
    Calls Try.prog 65 #[.pointer (some ⟨c, 0, none⟩), .int .i64 n] w fun e w' => ∃ r : Int, e = .returned (.int .i64 r) ∧ r = 0 ∧ At B w0 w' c a len cap := by
  go_enter Try.func65, Try.ntmps65
  go_wp2
  go_ret
  exact ⟨_, rfl, rfl, h⟩

set_option maxHeartbeats 400000 in
theorem below_small (B c : Nat) (w0 w : World) (a : Option Addr) (len cap : Nat) (n : Int) (h : At B w0 w c a len cap) (hn : 0 < n) (hn' : n ≤ 256) :
    Calls Try.prog 65 #[.pointer (some ⟨c, 0, none⟩), .int .i64 n] w fun e w' => ∃ r : Int, e = .returned (.int .i64 r) ∧ 0 ≤ r ∧ r < n ∧ At B w0 w' c a len cap := by
  go_enter Try.func65, Try.ntmps65
  go_wp2_with (go_at_call 86; refine (byte_at B c w0 _ a len cap (by assumption)).mono ?_; rintro e w1 ⟨r, rfl, hr0, hr1, h1⟩)
  have hm := mod_bd r n hr0 hn
  go_ret
  exact ⟨_, rfl, hm.1, hm.2.1, h1⟩

set_option maxHeartbeats 400000 in
theorem below_great (B c : Nat) (w0 w : World) (a : Option Addr) (len cap : Nat) (n : Int) (h : At B w0 w c a len cap) (hn : 256 < n) :
    Calls Try.prog 65 #[.pointer (some ⟨c, 0, none⟩), .int .i64 n] w fun e w' => ∃ r : Int, e = .returned (.int .i64 r) ∧ 0 ≤ r ∧ r < n ∧ r ≤ 4294967295 ∧ At B w0 w' c a len cap := by
  go_enter Try.func65, Try.ntmps65
  go_wp2_with (go_at_call 86; refine (byte_at B c w0 _ a len cap (by assumption)).mono ?_; rintro e w1 ⟨r, rfl, hr0, hr1, h1⟩)
  go_ret
  refine ⟨_, rfl, ?_⟩
  generalize hx : (_ * 16777216 + _ * 65536 + _ * 256 + _ : Int) = x
  have hm := mod_bd x n (by omega) (by omega)
  exact ⟨hm.1, hm.2.1, by omega, h1⟩

/-- A number below n, from 0 on; 0 where n is not above 0. -/
theorem below_at (B c : Nat) (w0 w : World) (a : Option Addr) (len cap : Nat) (n : Int) (h : At B w0 w c a len cap) :
    Calls Try.prog 65 #[.pointer (some ⟨c, 0, none⟩), .int .i64 n] w fun e w' => ∃ r : Int, e = .returned (.int .i64 r) ∧ 0 ≤ r ∧ r ≤ 4294967295 ∧ (0 < n → r < n) ∧ (n ≤ 0 → r = 0) ∧ At B w0 w' c a len cap := by
  by_cases h1 : n ≤ 0
  · refine (below_no B c w0 w a len cap n h h1).mono ?_
    rintro e w' ⟨r, he, hr, hc⟩
    exact ⟨r, he, by omega, by omega, fun _ => by omega, fun _ => hr, hc⟩
  · by_cases h2 : n ≤ 256
    · refine (below_small B c w0 w a len cap n h (by omega) h2).mono ?_
      rintro e w' ⟨r, he, hr, hr', hc⟩
      exact ⟨r, he, by omega, by omega, fun _ => by omega, fun _ => by omega, hc⟩
    · refine (below_great B c w0 w a len cap n h (by omega)).mono ?_
      rintro e w' ⟨r, he, hr, hr', hr2, hc⟩
      exact ⟨r, he, by omega, by omega, fun _ => by omega, fun _ => by omega, hc⟩

set_option maxHeartbeats 400000 in
theorem once_at (B c : Nat) (w0 w : World) (a : Option Addr) (len cap : Nat) (n : Int) (h : At B w0 w c a len cap) :
    Calls Try.prog 79 #[.pointer (some ⟨c, 0, none⟩), .int .i64 n] w fun e w' => ∃ r : Bool, e = .returned (.bool r) ∧ At B w0 w' c a len cap := by
  go_enter Try.func79, Try.ntmps79
  go_wp2_with (go_at_call 65; refine (below_at B c w0 _ a len cap _ (by assumption)).mono ?_; rintro e w1 ⟨r, rfl, hr0, hr1, hr2, hr3, h1⟩)
  go_ret
  exact ⟨_, rfl, h1⟩
end Cu
end Go.Proofs.Ytmbbombjlijknaa

/- The contract of the cursor's making. -/
namespace Go.Proofs.Ytmbbombjlijknaa
namespace Cu
open Go.ChangeShapes Go.WideShapes Go.ChangeAt Go.RowKit

theorem Bytes.parts {B : Nat} {w : World} {a : Option Addr} {len : Nat} (h : Bytes B w a len) :
    len = 0 ∨ ∃ b off : Nat, a = some ⟨b, off, none⟩ ∧ b < B ∧ ∀ j, j < len → ∃ z : Int, w.cell? ⟨b, off + j, none⟩ = some (.int .u8 z) ∧ 0 ≤ z ∧ z ≤ 255 := by
  by_cases h0 : len = 0
  · exact .inl h0
  · obtain ⟨b, off, z, ha, hb, _⟩ := h.2 0 (by omega)
    refine .inr ⟨b, off, ha, hb, fun j hj => ?_⟩
    obtain ⟨b', off', z', ha', hb', hc', hz⟩ := h.2 j hj
    rw [ha] at ha'
    simp at ha'
    obtain ⟨rfl, rfl⟩ := ha'
    exact ⟨z', hc', hz⟩

theorem new_cur {B : Nat} {w : World} {a : Option Addr} {len cap : Nat} {t : TypeId} (hB : Bytes B w a len) (hs : B ≤ w.heap.size) (h : Int) :
    Cur B (w.alloc (.cells #[.slice a len cap, .int .i64 0, .int .i64 h] t)) w.heap.size a len cap := by
  have hb : Below B w (w.alloc (.cells #[.slice a len cap, .int .i64 0, .int .i64 h] t)) := (Below.refl B w).alloc hs _
  exact ⟨hs, by simp, by simp [go_sem], ⟨0, by omega, by simp [go_sem]⟩, ⟨h, by simp [go_sem]⟩, by simp [go_sem], by simp [go_sem], hB.below hb⟩

set_option maxHeartbeats 400000 in
theorem new_nil (B : Nat) (w : World) (a : Option Addr) (cap : Nat) (hB : Bytes B w a 0) (hs : B ≤ w.heap.size) :
    Calls Try.prog 62 #[.slice a 0 cap] w fun e w' => ∃ c : Nat, e = .returned (.pointer (some ⟨c, 0, none⟩)) ∧ w.heap.size ≤ c ∧ Below w.heap.size w w' ∧ Cur B w' c a 0 cap := by
  go_enter Try.func62, Try.ntmps62
  go_wp2
  go_loop [3, 4] (fun h i => i = .int .i64 0 ∧ ∃ hh : Int, h = .int .i64 hh) (fun _ i => 0 - (intOf i).toNat)
  case atStart => exact ⟨rfl, _, rfl⟩
  case round =>
    obtain ⟨rfl, hh, rfl⟩ := hrel
    go_wp2
    go_ret
    exact ⟨w.heap.size, rfl, Nat.le_refl _, (Below.refl _ w).alloc (Nat.le_refl _) _, new_cur hB hs _⟩

set_option maxHeartbeats 400000 in
theorem new_some (B b off : Nat) (w : World) (len cap : Nat) (hl : len ≤ 4096)
    (hc : ∀ j, j < len → ∃ z : Int, w.cell? ⟨b, off + j, none⟩ = some (.int .u8 z) ∧ 0 ≤ z ∧ z ≤ 255)
    (hB : Bytes B w (some ⟨b, off, none⟩) len) (hs : B ≤ w.heap.size) :
    Calls Try.prog 62 #[.slice (some ⟨b, off, none⟩) len cap] w fun e w' => ∃ c : Nat, e = .returned (.pointer (some ⟨c, 0, none⟩)) ∧ w.heap.size ≤ c ∧ Below w.heap.size w w' ∧ Cur B w' c (some ⟨b, off, none⟩) len cap := by
  have HC : Hid (∀ j, j < len → ∃ z : Int, w.cell? ⟨b, off + j, none⟩ = some (.int .u8 z) ∧ 0 ≤ z ∧ z ≤ 255) := hc
  clear hc
  go_enter Try.func62, Try.ntmps62
  go_wp2
  go_loop [3, 4] (fun h i => ∃ k : Nat, k ≤ len ∧ i = .int .i64 k ∧ ∃ hh : Int, 0 ≤ hh ∧ hh ≤ 1073741823 ∧ h = .int .i64 hh) (fun _ i => len - (intOf i).toNat)
  case atStart => exact ⟨0, Nat.zero_le _, rfl, _, by omega, by omega, rfl⟩
  case round =>
    obtain ⟨k, hk, rfl, hh, h0, h1, rfl⟩ := hrel
    by_cases hlt : k < len
    · obtain ⟨z, hz, hz0, hz1⟩ := HC.out k hlt
      have hlt' : (k : Int) < (len : Int) := by omega
      go_wp2
      go_round
      case rel => exact ⟨k + 1, by omega, by go_num, _, (and30_bd _).1, (and30_bd _).2, rfl⟩
      case measure => simp [intOf]; omega
    · have hlt' : ¬ (k : Int) < (len : Int) := by omega
      go_wp2
      go_ret
      exact ⟨w.heap.size, rfl, Nat.le_refl _, (Below.refl _ w).alloc (Nat.le_refl _) _, new_cur hB hs _⟩

theorem new_at (B : Nat) (w : World) (a : Option Addr) (len cap : Nat) (hB : Bytes B w a len) (hs : B ≤ w.heap.size) :
    Calls Try.prog 62 #[.slice a len cap] w fun e w' => ∃ c : Nat, e = .returned (.pointer (some ⟨c, 0, none⟩)) ∧ w.heap.size ≤ c ∧ Below w.heap.size w w' ∧ Cur B w' c a len cap := by
  rcases hB.parts with rfl | ⟨b, off, rfl, hlt, hc⟩
  · exact new_nil B w a cap hB hs
  · exact new_some B b off w len cap hB.1 hc hB hs
end Cu
end Go.Proofs.Ytmbbombjlijknaa

/- The contracts of the drawn words and of the drawn numbers. -/
namespace Go.Proofs.Ytmbbombjlijknaa
namespace Cu
open Go.ChangeShapes Go.WideShapes Go.ChangeAt Go.RowKit

theorem drawWord_row {w w2 : World} {c : Nat} {t : TypeId} (r : Int) (h0 : 0 ≤ r) (h1 : r < 8) (hc : c < w.heap.size)
    (ht : Touch c (w.alloc (.cells #[.int .i64 2147483647, .int .i64 (-2147483648), .int .i64 0, .int .i64 1, .int .i64 (-1), .int .i64 128, .int .i64 (-129), .int .i64 65536] t)) w2) :
    ∃ v : Int, w2.cell? ⟨w.heap.size, r.toNat, none⟩ = some (.int .i64 v) ∧ -2147483648 ≤ v ∧ v ≤ 2147483647 := by
  obtain ⟨k, rfl⟩ := Int.eq_ofNat_of_zero_le h0
  rw [Int.toNat_natCast, ht.cell (p := ⟨w.heap.size, k, none⟩) (by simp) (by simp; omega)]
  have hk : k = 0 ∨ k = 1 ∨ k = 2 ∨ k = 3 ∨ k = 4 ∨ k = 5 ∨ k = 6 ∨ k = 7 := by omega
  rcases hk with rfl | rfl | rfl | rfl | rfl | rfl | rfl | rfl
  all_goals exact ⟨_, by simp [go_sem]; rfl, by omega, by omega⟩

set_option maxHeartbeats 400000 in
theorem drawWord_at (B c : Nat) (w0 w : World) (a : Option Addr) (len cap : Nat) (h : At B w0 w c a len cap) :
    Calls Try.prog 127 #[.pointer (some ⟨c, 0, none⟩)] w fun e w' => ∃ r : Int, e = .returned (.int .i64 r) ∧ -2147483648 ≤ r ∧ r ≤ 2147483647 ∧ At B w0 w' c a len cap := by
  go_enter Try.func127, Try.ntmps127
  go_wp2_with (go_at_call 79; refine (once_at B c w0 _ a len cap _ (by assumption)).mono ?_; rintro e w1 ⟨r, rfl, h1⟩; cases r)
  · refine (below_at B c w0 _ a len cap _ h1).mono ?_
    rintro e w2 ⟨r, rfl, hr0, hr1, hr2, hr3, h2⟩
    have hr := hr2 (by omega)
    clear hr2 hr3
    go_wp2
    go_ret
    exact ⟨_, rfl, by omega, by omega, h2⟩
  · refine (below_at B c _ _ a len cap _ ⟨Touch.refl _ _, h1.2.alloc _⟩).mono ?_
    rintro e w2 ⟨r, rfl, hr0, hr1, hr2, hr3, ht, h2⟩
    have hr := hr2 (by omega)
    clear hr2 hr3
    obtain ⟨v, hv, hv0, hv1⟩ := drawWord_row r hr0 hr h1.2.2.1 ht
    have hT : Touch c w0 w2 := (h1.1.alloc _).trans ht
    go_wp2
    go_ret
    exact ⟨_, rfl, hv0, hv1, hT, h2⟩
end Cu
end Go.Proofs.Ytmbbombjlijknaa

/- The contracts of the drawn numbers of stage 1, and of the laws' own helpers. -/
namespace Go.Proofs.Ytmbbombjlijknaa
namespace Cu
open Go.ChangeShapes Go.WideShapes Go.ChangeAt Go.RowKit

theorem At.start {B c : Nat} {w : World} {a : Option Addr} {len cap : Nat} (h : Cur B w c a len cap) : At B w w c a len cap := ⟨Touch.refl _ _, h⟩
theorem At.below {B c : Nat} {u v w : World} {a : Option Addr} {len cap : Nat} (h : At B v w c a len cap) (hb : Below u.heap.size u v) (hc : u.heap.size ≤ c) : Below u.heap.size u w :=
  hb.trans (h.1.below hc hb.size)

theorem big_at (w : World) (a : Option Addr) (len cap : Nat) :
    Calls Try.prog 6 #[.slice a len cap] w fun e w' => e = .returned (.bool (decide ((4096 : Int) < (len : Int)))) ∧ w = w' := by
  go_enter Try.func6, Try.ntmps6
  go_wp2
  go_ret
  exact ⟨rfl, rfl⟩
end Cu
end Go.Proofs.Ytmbbombjlijknaa

/- The contract of the laws' own choice of a number. -/
namespace Go.Proofs.Ytmbbombjlijknaa
namespace Cu
open Go.ChangeShapes Go.WideShapes Go.ChangeAt Go.RowKit

theorem cell_lt {w : World} {p : Addr} {v : Value} (h : w.cell? p = some v) : p.block < w.heap.size := by
  refine Nat.lt_of_not_le fun hn => ?_
  have hnone : w.heap[p.block]? = none := Array.getElem?_eq_none hn
  simp [World.cell?, hnone] at h

/-- A row of bytes that came in, of at most 4096 cells. -/
theorem bytes_of {w : World} {x : Addr} {len cap : Nat} {zs : List Int} (hl : len ≤ cap) (hz : zs.length = cap)
    (hcell : ∀ i, i < zs.length → w.cell? (x.add i) = some (.int .u8 (zs.getD i 0))) (hwz : ∀ n ∈ zs, (Lit.int .u8 n).wf = true) (h4 : len ≤ 4096) :
    Bytes w.heap.size w (some x) len := by
  refine ⟨h4, fun j hj => ?_⟩
  obtain ⟨b, off, spot⟩ := x
  have hc := hcell j (by omega)
  have hspot : spot = none := by simpa [Addr.add] using World.cell?_spot (hcell 0 (by omega))
  subst hspot
  have hc0 : w.cell? ⟨b, off + j, none⟩ = some (.int .u8 (zs.getD j 0)) := by
    rw [← hc]
    by_cases h0 : j = 0 <;> simp [Addr.add, h0]
  have hm : (Lit.int .u8 (zs.getD j 0)).wf = true := by
    refine hwz _ ?_
    have hj' : j < zs.length := by omega
    have e : zs.getD j 0 = zs[j] := by simp [hj']
    rw [e]
    exact List.getElem_mem _
  have hbd := bounds_u8 hm
  exact ⟨b, off, zs.getD j 0, rfl, cell_lt hc0, hc0, hbd.1, hbd.2⟩

end Cu
end Go.Proofs.Ytmbbombjlijknaa

/- The contracts of the two sides of WordOk, and the plain facts on words. -/
namespace Go.Proofs.Ytmbbombjlijknaa
namespace Wd
open Go.ChangeShapes Go.WideShapes Go.ChangeAt Go.RowKit

def okB (n : Int) : Bool := decide (-2147483648 ≤ n) && decide (n ≤ 2147483647)

theorem ok_yes {n : Int} (h : okB n = true) : -2147483648 ≤ n ∧ n ≤ 2147483647 := by
  simpa [okB] using h
theorem ok_no {n : Int} (h : okB n = false) : n < -2147483648 ∨ 2147483647 < n := by
  simp [okB] at h
  omega
theorem wrap_bd (n : Int) : -2147483648 ≤ wrap32 n ∧ wrap32 n ≤ 2147483647 := by
  unfold wrap32; omega
theorem wrap_ne {n : Int} (h : okB n = false) : (wrap32 n == n) = false := by
  have h1 := ok_no h
  have h2 := wrap_bd n
  simp; omega
theorem wrap_eq {n : Int} (h : okB n = true) : wrap32 n = n := by
  have h1 := ok_yes h
  unfold wrap32; omega
theorem wrap_ok (n : Int) : okB (wrap32 n) = true := by
  have h := wrap_bd n
  simp [okB, h]

theorem w32_64 (n : Int) : wrap32 (wrap64 n) = wrap32 n := by
  unfold wrap32 wrap64; omega
theorem ret_int {k : IntKind} {a b : Int} (h : a = b) : Ending.returned (.int k a) = .returned (.int k b) := by rw [h]

def plusF (a b : Int) : Int := if okB a && okB b then wrap32 (a + b) else 0
def minusF (a b : Int) : Int := if okB a && okB b then wrap32 (a - b) else 0
def timesF (a b : Int) : Int := if okB a && okB b then wrap32 (a * b) else 0
def overB (a b : Int) : Bool := okB a && okB b && !(b == 0)
def overF (a b : Int) : Int := if overB a b then wrap32 (a.tdiv b) else 0

theorem implWrap (n : Int) (w : World) :
    Calls Try.prog 141 #[.int .i64 n] w fun e w' => e = .returned (.int .i64 (wrap32 n)) ∧ w = w' := by
  have hb := (wrap_bd n).1
  have hc := (wrap_bd n).2
  go_enter Try.func141, Try.ntmps141
  go_wp2
  go_ret
  exact ⟨rfl, rfl⟩
theorem implWordOk (n : Int) (w : World) :
    Calls Try.prog 139 #[.int .i64 n] w fun e w' => e = .returned (.bool (okB n)) ∧ w = w' := by
  have hb := (wrap_bd n).1
  have hc := (wrap_bd n).2
  cases h : okB n
  · have h1 := wrap_ne h
    clear h
    go_enter Try.func139, Try.ntmps139
    go_wp2
    go_ret
    exact ⟨rfl, rfl⟩
  · have h1 := (ok_yes h).1
    have h2 := (ok_yes h).2
    clear h
    go_enter Try.func139, Try.ntmps139
    go_wp2
    go_ret
    exact ⟨rfl, rfl⟩
theorem specWordOk (n : Int) (w : World) :
    Calls Try.prog 138 #[.int .i64 n] w fun e w' => e = .returned (.bool (okB n)) ∧ w = w' := by
  by_cases h1 : -2147483648 ≤ n
  · by_cases h2 : n ≤ 2147483647
    · have e : okB n = true := by simp [okB, h1, h2]
      rw [e]
      clear e
      go_enter Try.func138, Try.ntmps138
      go_wp2
      go_ret
      exact ⟨rfl, rfl⟩
    · have e : okB n = false := by simp [okB, h2]
      rw [e]
      clear e
      go_enter Try.func138, Try.ntmps138
      go_wp2
      go_ret
      exact ⟨rfl, rfl⟩
  · have e : okB n = false := by simp [okB, h1]
    rw [e]
    clear e
    go_enter Try.func138, Try.ntmps138
    go_wp2
    go_ret
    exact ⟨rfl, rfl⟩

end Wd
end Go.Proofs.Ytmbbombjlijknaa

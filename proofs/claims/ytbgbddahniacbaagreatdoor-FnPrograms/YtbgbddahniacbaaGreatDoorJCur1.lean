/- The cursor over the drawn bytes: what it is, and the plain facts on it. -/
import Derived.Test.YtbgbddahniacbaaGreatDoorRows
import Derived.WalkKit
import Derived.ProofKit
import Derived.Below
import Derived.Laws.Bits128
import Derived.WalkLawsBesides
import Derived.WalkSpells
import Derived.BigQuiet
import Derived.Deep.QuietTactic
namespace Go.Proofs.YtbgbddahniacbaaGreatDoor
namespace Cu
open Go.ChangeShapes Go.WideShapes Go.ChangeAt Go.RowKit

theorem and255 (n : Int) : bits .and .i64 n 255 = n % 256 := by
  have h255 : (BitVec.ofInt 64 255).toNat = 2 ^ 8 - 1 := by decide
  have key : (BitVec.ofInt 64 n &&& BitVec.ofInt 64 255).toNat = (n % ((2 ^ 64 : Nat) : Int)).toNat % 2 ^ 8 := by
    rw [BitVec.toNat_and, BitVec.toNat_ofInt, h255, Nat.and_two_pow_sub_one_eq_mod]
  show IntKind.i64.wrap ((BitVec.ofInt 64 n &&& BitVec.ofInt 64 255).toNat : Nat) = n % 256
  rw [key, IntKind.wrap_i64]
  omega
theorem and30 (n : Int) : bits .and .i64 n 1073741823 = n % 1073741824 := by
  have h30 : (BitVec.ofInt 64 1073741823).toNat = 2 ^ 30 - 1 := by decide
  have key : (BitVec.ofInt 64 n &&& BitVec.ofInt 64 1073741823).toNat = (n % ((2 ^ 64 : Nat) : Int)).toNat % 2 ^ 30 := by
    rw [BitVec.toNat_and, BitVec.toNat_ofInt, h30, Nat.and_two_pow_sub_one_eq_mod]
  show IntKind.i64.wrap ((BitVec.ofInt 64 n &&& BitVec.ofInt 64 1073741823).toNat : Nat) = n % 1073741824
  rw [key, IntKind.wrap_i64]
  omega
theorem and255_bd (n : Int) : 0 ≤ bits .and .i64 n 255 ∧ bits .and .i64 n 255 ≤ 255 := by
  rw [and255]; omega
theorem and30_bd (n : Int) : 0 ≤ bits .and .i64 n 1073741823 ∧ bits .and .i64 n 1073741823 ≤ 1073741823 := by
  rw [and30]; omega

/-- The bytes that came in: a row of at most 4096 cells below block B. -/
def Bytes (B : Nat) (w : World) (a : Option Addr) (len : Nat) : Prop :=
  len ≤ 4096 ∧ ∀ j, j < len → ∃ b off : Nat, ∃ z : Int, a = some ⟨b, off, none⟩ ∧ b < B ∧ w.cell? ⟨b, off + j, none⟩ = some (.int .u8 z) ∧ 0 ≤ z ∧ z ≤ 255

theorem Bytes.below {B : Nat} {w w' : World} {a : Option Addr} {len : Nat} (h : Bytes B w a len) (hb : Below B w w') : Bytes B w' a len :=
  ⟨h.1, fun j hj => by
    obtain ⟨b, off, z, ha, hB, hc, h0, h1⟩ := h.2 j hj
    exact ⟨b, off, z, ha, hB, (hb.cell (p := ⟨b, off + j, none⟩) hB).trans hc, h0, h1⟩⟩

/-- A cursor in block c, not below B, over bytes that lie below B. -/
def Cur (B : Nat) (w : World) (c : Nat) (a : Option Addr) (len cap : Nat) : Prop :=
  B ≤ c ∧ c < w.heap.size ∧ w.cell? ⟨c, 0, none⟩ = some (.slice a len cap) ∧
  (∃ i : Nat, i ≤ len ∧ w.cell? ⟨c, 1, none⟩ = some (.int .i64 i)) ∧
  (∃ h : Int, w.cell? ⟨c, 2, none⟩ = some (.int .i64 h)) ∧
  w.frozen? ⟨c, 1, none⟩ = false ∧ w.frozen? ⟨c, 2, none⟩ = false ∧ Bytes B w a len

/-- No block but c has turned, and none has gone. -/
structure Touch (c : Nat) (w w' : World) : Prop where
  os : w'.os = w.os
  tape : w'.tape = w.tape
  output : w'.output = w.output
  size : w.heap.size ≤ w'.heap.size
  block : ∀ k, k < w.heap.size → k ≠ c → w'.heap[k]? = w.heap[k]?
theorem Touch.refl (c : Nat) (w : World) : Touch c w w := ⟨rfl, rfl, rfl, Nat.le_refl _, fun _ _ _ => rfl⟩
theorem Touch.trans {c : Nat} {u v w : World} (h : Touch c u v) (k : Touch c v w) : Touch c u w :=
  ⟨k.os.trans h.os, k.tape.trans h.tape, k.output.trans h.output, Nat.le_trans h.size k.size, fun i hi hc => (k.block i (Nat.lt_of_lt_of_le hi h.size) hc).trans (h.block i hi hc)⟩
theorem Touch.drewN {c : Nat} {u w : World} (h : Touch c u w) (n : Nat) : Touch c u (w.drewN n) := ⟨h.os, h.tape, h.output, h.size, h.block⟩
theorem Touch.drew {c : Nat} {u w : World} (h : Touch c u w) : Touch c u w.drew := ⟨h.os, h.tape, h.output, h.size, h.block⟩
theorem Touch.setCell {c : Nat} {u w : World} (h : Touch c u w) (o : Nat) (v : Value) : Touch c u (w.setCell ⟨c, o, none⟩ v) := by
  have hb := (Below.refl c w).setCell (p := ⟨c, o, none⟩) (Nat.le_refl c) v
  exact h.trans ⟨hb.os, hb.tape, hb.output, hb.size, fun k _ hc => Below.heap_setCell w _ _ k hc⟩
theorem Touch.alloc {c : Nat} {u w : World} (h : Touch c u w) (o : Obj) : Touch c u (w.alloc o) := by
  have hb := (Below.refl w.heap.size w).alloc (Nat.le_refl _) o
  exact h.trans ⟨hb.os, hb.tape, hb.output, hb.size, fun k hk _ => hb.block k hk⟩
theorem Touch.below {c B : Nat} {u w : World} (h : Touch c u w) (hc : B ≤ c) (hs : B ≤ u.heap.size) : Below B u w :=
  ⟨h.os, h.tape, h.output, h.size, fun k hk => h.block k (by omega) (by omega)⟩
theorem Touch.cell {c : Nat} {u w : World} (h : Touch c u w) {p : Addr} (hp : p.block < u.heap.size) (hc : p.block ≠ c) : w.cell? p = u.cell? p := World.cell?_of_block (w := u) (h.block p.block hp hc)

/-- What lies below the cursor's own block, and the cursor's block itself, is as it was. -/
theorem Cur.later {B c : Nat} {w w' : World} {a : Option Addr} {len cap : Nat} (h : Cur B w c a len cap) {B' : Nat} (hb : Below B' w w') (hB : c < B') : Cur B w' c a len cap := by
  obtain ⟨h0, h1, h2, ⟨i, hi, h3⟩, ⟨g, h4⟩, h5, h6, h7⟩ := h
  have cc := fun o => hb.cell (p := ⟨c, o, none⟩) hB
  have ff := fun o => hb.frozen (p := ⟨c, o, none⟩) hB
  exact ⟨h0, Nat.lt_of_lt_of_le h1 hb.size, (cc 0).trans h2, ⟨i, hi, (cc 1).trans h3⟩, ⟨g, (cc 2).trans h4⟩, (ff 1).trans h5, (ff 2).trans h6, h7.below (hb.mono (by omega))⟩
theorem Cur.alloc {B c : Nat} {w : World} {a : Option Addr} {len cap : Nat} (h : Cur B w c a len cap) (o : Obj) : Cur B (w.alloc o) c a len cap :=
  h.later ((Below.refl w.heap.size w).alloc (Nat.le_refl _) o) h.2.1
theorem Cur.set2 {B c : Nat} {w : World} {a : Option Addr} {len cap : Nat} (h : Cur B w c a len cap) (g : Int) : Cur B (w.setCell ⟨c, 2, none⟩ (.int .i64 g)) c a len cap := by
  obtain ⟨h0, h1, h2, ⟨i, hi, h3⟩, ⟨g0, h4⟩, h5, h6, h7⟩ := h
  have hb : Below B w (w.setCell ⟨c, 2, none⟩ (.int .i64 g)) := (Below.refl B w).setCell (p := ⟨c, 2, none⟩) h0 _
  exact ⟨h0, Nat.lt_of_lt_of_le h1 hb.size, by simp [go_sem, h2], ⟨i, hi, by simp [go_sem, h3]⟩, ⟨g, by simp [go_sem, h4]⟩, by simp [go_sem, h5], by simp [go_sem, h6], h7.below hb⟩
theorem Cur.set1 {B c : Nat} {w : World} {a : Option Addr} {len cap : Nat} (h : Cur B w c a len cap) (k : Nat) (hk : k ≤ len) (v : Int) (hv : v = (k : Int)) : Cur B (w.setCell ⟨c, 1, none⟩ (.int .i64 v)) c a len cap := by
  subst hv
  obtain ⟨h0, h1, h2, ⟨i, hi, h3⟩, ⟨g0, h4⟩, h5, h6, h7⟩ := h
  have hb : Below B w (w.setCell ⟨c, 1, none⟩ (.int .i64 k)) := (Below.refl B w).setCell (p := ⟨c, 1, none⟩) h0 _
  exact ⟨h0, Nat.lt_of_lt_of_le h1 hb.size, by simp [go_sem, h2], ⟨k, hk, by simp [go_sem, h3]⟩, ⟨g0, by simp [go_sem, h4]⟩, by simp [go_sem, h5], by simp [go_sem, h6], h7.below hb⟩
theorem Cur.drewN {B c : Nat} {w : World} {a : Option Addr} {len cap : Nat} (h : Cur B w c a len cap) (n : Nat) : Cur B (w.drewN n) c a len cap := h
end Cu
end Go.Proofs.YtbgbddahniacbaaGreatDoor

/- The contract of the cursor's next byte. -/
namespace Go.Proofs.YtbgbddahniacbaaGreatDoor
namespace Cu
open Go.ChangeShapes Go.WideShapes Go.ChangeAt Go.RowKit

set_option maxHeartbeats 400000 in
theorem byte_any (B c : Nat) (w : World) (a : Option Addr) (len cap : Nat) (hcur : Cur B w c a len cap) :
    Calls Tryz.prog 63 #[.pointer (some ⟨c, 0, none⟩)] w fun e w' => ∃ r : Int, e = .returned (.int .i64 r) ∧ 0 ≤ r ∧ r ≤ 255 ∧ Touch c w w' ∧ Cur B w' c a len cap := by
  have HC : Hid (Cur B w c a len cap) := hcur
  obtain ⟨h0, h1, h2, ⟨i, hi, h3⟩, ⟨g, h4⟩, h5, h6, hB⟩ := hcur
  by_cases hlt : i < len
  · obtain ⟨b, off, z, rfl, hbB, hcz, hz0, hz1⟩ := hB.2 i hlt
    have hlt' : (i : Int) < (len : Int) := by omega
    have hl := hB.1
    go_enter Tryz.func63, Tryz.ntmps63
    go_wp2
    go_quiet (fail)
    go_wp2
    go_quiet (fail)
    go_wp2
    go_quiet (fail)
    go_wp2
    go_ret
    refine ⟨_, rfl, ?_, ?_, ?_, ?_⟩
    · exact (and255_bd _).1
    · exact (and255_bd _).2
    · exact (((Touch.refl c w).setCell 2 _).drewN _).setCell 1 _
    · exact ((HC.out.set2 _).drewN _).set1 (i + 1) (by omega) _ (by omega)
  · have hlt' : ¬ (i : Int) < (len : Int) := by omega
    go_enter Tryz.func63, Tryz.ntmps63
    go_wp2
    go_quiet (fail)
    go_wp2
    go_quiet (fail)
    go_wp2
    go_ret
    refine ⟨_, rfl, ?_, ?_, ?_, ?_⟩
    · exact (and255_bd _).1
    · exact (and255_bd _).2
    · exact (((Touch.refl c w).setCell 2 _).drewN _).drewN _
    · exact ((HC.out.set2 _).drewN _).drewN _
end Cu
end Go.Proofs.YtbgbddahniacbaaGreatDoor

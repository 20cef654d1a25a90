/- The contracts of the drawn numbers of stage 1, and of the laws' own helpers. -/
import Derived.Test.YtffkkhaiedhaiaaJCur4
import Derived.OpenShut
import Derived.BigQuiet
namespace Go.Proofs.Ytffkkhaiedhaiaa
namespace Cu
open Go.ChangeShapes Go.WideShapes Go.ChangeAt Go.RowKit

theorem At.start {B c : Nat} {w : World} {a : Option Addr} {len cap : Nat} (h : Cur B w c a len cap) : At B w w c a len cap := ⟨Touch.refl _ _, h⟩
theorem At.below {B c : Nat} {u v w : World} {a : Option Addr} {len cap : Nat} (h : At B v w c a len cap) (hb : Below u.heap.size u v) (hc : u.heap.size ≤ c) : Below u.heap.size u w :=
  hb.trans (h.1.below hc hb.size)

theorem big_at (w : World) (a : Option Addr) (len cap : Nat) :
    Calls Try.prog 6 #[.slice a len cap] w fun e w' => e = .returned (.bool (decide ((4096 : Int) < (len : Int)))) ∧ w = w' := by
  go_enter Try.func6, Try.ntmps6
  go_wp2
  go_ret
  exact ⟨rfl, rfl⟩
end Cu
end Go.Proofs.Ytffkkhaiedhaiaa

/- The contract of the laws' own choice of a number. -/
namespace Go.Proofs.Ytffkkhaiedhaiaa
namespace Cu
open Go.ChangeShapes Go.WideShapes Go.ChangeAt Go.RowKit

theorem cell_lt {w : World} {p : Addr} {v : Value} (h : w.cell? p = some v) : p.block < w.heap.size := by
  refine Nat.lt_of_not_le fun hn => ?_
  have hnone : w.heap[p.block]? = none := Array.getElem?_eq_none hn
  simp [World.cell?, hnone] at h

/-- A row of bytes that came in, of at most 4096 cells. -/
theorem bytes_of {w : World} {x : Addr} {len cap : Nat} {zs : List Int} (hl : len ≤ cap) (hz : zs.length = cap)
    (hcell : ∀ i, i < zs.length → w.cell? (x.add i) = some (.int .u8 (zs.getD i 0))) (hwz : ∀ n ∈ zs, (Lit.int .u8 n).wf = true) (h4 : len ≤ 4096) :
    Bytes w.heap.size w (some x) len := by
  refine ⟨h4, fun j hj => ?_⟩
  obtain ⟨b, off, spot⟩ := x
  have hc := hcell j (by omega)
  have hspot : spot = none := by simpa [Addr.add] using World.cell?_spot (hcell 0 (by omega))
  subst hspot
  have hc0 : w.cell? ⟨b, off + j, none⟩ = some (.int .u8 (zs.getD j 0)) := by
    rw [← hc]
    by_cases h0 : j = 0 <;> simp [Addr.add, h0]
  have hm : (Lit.int .u8 (zs.getD j 0)).wf = true := by
    refine hwz _ ?_
    have hj' : j < zs.length := by omega
    have e : zs.getD j 0 = zs[j] := by simp [hj']
    rw [e]
    exact List.getElem_mem _
  have hbd := bounds_u8 hm
  exact ⟨b, off, zs.getD j 0, rfl, cell_lt hc0, hc0, hbd.1, hbd.2⟩

end Cu
end Go.Proofs.Ytffkkhaiedhaiaa

/- The laws' number out of the bytes, told: the same bytes give the same number. -/
namespace Go.Proofs.Ytffkkhaiedhaiaa
namespace Cu
open Go.ChangeShapes Go.WideShapes Go.ChangeAt Go.RowKit

/-- Bytes, told. -/
def Told (F : Nat → Int) (w : World) (a : Option Addr) (len : Nat) : Prop := len ≤ 4096 ∧ (∀ j, 0 ≤ F j ∧ F j ≤ 255) ∧ ∀ j, j < len → ∃ b off, a = some ⟨b, off, none⟩ ∧ b < w.heap.size ∧ w.cell? ⟨b, off + j, none⟩ = some (.int .u8 (F j))
theorem Bytes.told {B : Nat} {w : World} {a : Option Addr} {len : Nat} (h : Bytes B w a len) : ∃ F, Told F w a len := by
  obtain ⟨h4, hc⟩ := h
  refine ⟨fun j => if hj : j < len then Classical.choose (Classical.choose_spec (Classical.choose_spec (hc j hj))) else 0, h4, fun j => ?_, fun j hj => ?_⟩
  · dsimp only
    split
    · rename_i hj
      have := Classical.choose_spec (Classical.choose_spec (Classical.choose_spec (hc j hj)))
      exact ⟨this.2.2.2.1, this.2.2.2.2⟩
    · omega
  · have := Classical.choose_spec (Classical.choose_spec (Classical.choose_spec (hc j hj)))
    refine ⟨_, _, this.1, cell_lt this.2.2.1, ?_⟩
    dsimp only
    rw [dif_pos hj]
    exact this.2.2.1
theorem Told.on {F : Nat → Int} {u w : World} {a : Option Addr} {len : Nat} (h : Told F u a len) (hb : Below u.heap.size u w) : Told F w a len := by
  obtain ⟨h1, h2, h3⟩ := h
  refine ⟨h1, h2, fun j hj => ?_⟩
  obtain ⟨b, off, ha, hl, hc⟩ := h3 j hj
  exact ⟨b, off, ha, Nat.lt_of_lt_of_le hl hb.size, (hb.cell (p := ⟨b, off + j, none⟩) hl).trans hc⟩
theorem Told.below {F : Nat → Int} {u w : World} {a : Option Addr} {len B : Nat} (h : Told F u a len) (hB : u.heap.size ≤ B) (hb : Below B u w) : Told F w a len := by
  obtain ⟨h1, h2, h3⟩ := h
  refine ⟨h1, h2, fun j hj => ?_⟩
  obtain ⟨b, off, ha, hl, hc⟩ := h3 j hj
  exact ⟨b, off, ha, Nat.lt_of_lt_of_le hl hb.size, (hb.cell (p := ⟨b, off + j, none⟩) (show b < B by omega)).trans hc⟩
def pickK (F : Nat → Int) (len : Nat) (seed : Int) : Nat → Int
  | 0 => (len : Int) + 7919 * seed
  | k + 1 => (pickK F len seed k * 193 + F k + seed) % 1000003
def pickF (F : Nat → Int) (len : Nat) (seed n : Int) : Int := pickK F len seed len % n
theorem pickK_bd {F : Nat → Int} {len : Nat} (h4 : len ≤ 4096) {seed : Int} (h0 : 0 ≤ seed) (h1 : seed ≤ 1000000) : ∀ k, 0 ≤ pickK F len seed k ∧ pickK F len seed k ≤ 10000000000
  | 0 => by unfold pickK; omega
  | k + 1 => by unfold pickK; omega
set_option maxHeartbeats 400000 in
theorem pickF_at (F : Nat → Int) (w : World) (a : Option Addr) (len cap : Nat) (seed n : Int) (hT : Told F w a len) (h0 : 0 ≤ seed) (h1 : seed ≤ 1000000) (hn : 0 < n) :
    Calls Try.prog 29 #[.slice a len cap, .int .i64 seed, .int .i64 n] w fun e w' => e = .returned (.int .i64 (pickF F len seed n)) ∧ w = w' := by
  have hl := hT.1
  have HC : Hid (∀ j, j < len → ∃ b off, a = some ⟨b, off, none⟩ ∧ b < w.heap.size ∧ w.cell? ⟨b, off + j, none⟩ = some (.int .u8 (F j))) := hT.2.2
  have HF : Hid (∀ j, 0 ≤ F j ∧ F j ≤ 255) := hT.2.1
  clear hT
  have HP : Hid (∀ k, 0 ≤ pickK F len seed k ∧ pickK F len seed k ≤ 10000000000) := pickK_bd hl h0 h1
  have HS : Hid (∀ k, (pickK F len seed k * 193 + F k + seed) % 1000003 = pickK F len seed (k + 1)) := fun k => rfl
  have HZ : Hid (pickK F len seed 0 = (len : Int) + 7919 * seed) := rfl
  have HE : Hid (pickF F len seed n = pickK F len seed len % n) := rfl
  generalize pickF F len seed n = r at *
  generalize pickK F len seed = P at *
  go_enter Try.func29, Try.ntmps29
  go_wp2
  go_loop [7, 8] (fun h i => ∃ k : Nat, k ≤ len ∧ i = .int .i64 k ∧ h = .int .i64 (P k)) (fun _ i => len - (intOf i).toNat)
  case atStart => exact ⟨0, Nat.zero_le _, rfl, by rw [HZ.out]⟩
  case round =>
    obtain ⟨k, hk, rfl, rfl⟩ := hrel
    have hp := HP.out k
    by_cases hlt : k < len
    · obtain ⟨b, off, rfl, _, hz⟩ := HC.out k hlt
      have hz0 := (HF.out k).1
      have hz1 := (HF.out k).2
      have hlt' : (k : Int) < (len : Int) := by omega
      have HSK : Hid ((P k * 193 + F k + seed) % 1000003 = P (k + 1)) := HS.out k
      go_wp2
      go_round
      case rel => exact ⟨k + 1, by omega, by go_num, by rw [← HSK.out]⟩
      case measure => simp [intOf]; omega
    · obtain rfl : k = len := by omega
      have hm := mod_bd (P k) n hp.1 hn
      go_wp2
      go_ret
      rw [HE.out]
      exact ⟨rfl, rfl⟩
end Cu
end Go.Proofs.Ytffkkhaiedhaiaa

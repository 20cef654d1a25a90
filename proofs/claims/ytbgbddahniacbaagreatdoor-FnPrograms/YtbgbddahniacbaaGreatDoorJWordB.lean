/- The contract of the laws' own choice of a number. -/
import Derived.Test.YtbgbddahniacbaaGreatDoorJCur5
import Derived.OpenShut
import Derived.Test.YtbgbddahniacbaaGreatDoorRows
import Derived.WalkKit
import Derived.ProofKit
namespace Go.Proofs.YtbgbddahniacbaaGreatDoor
namespace Cu
open Go.ChangeShapes Go.WideShapes Go.ChangeAt Go.RowKit

theorem cell_lt {w : World} {p : Addr} {v : Value} (h : w.cell? p = some v) : p.block < w.heap.size := by
  refine Nat.lt_of_not_le fun hn => ?_
  have hnone : w.heap[p.block]? = none := Array.getElem?_eq_none hn
  simp [World.cell?, hnone] at h

/-- A row of bytes that came in, of at most 4096 cells. -/
theorem bytes_of {w : World} {x : Addr} {len cap : Nat} {zs : List Int} (hl : len ≤ cap) (hz : zs.length = cap)
    (hcell : ∀ i, i < zs.length → w.cell? (x.add i) = some (.int .u8 (zs.getD i 0))) (hwz : ∀ n ∈ zs, (Lit.int .u8 n).wf = true) (h4 : len ≤ 4096) :
    Bytes w.heap.size w (some x) len := by
  refine ⟨h4, fun j hj => ?_⟩
  obtain ⟨b, off, spot⟩ := x
  have hc := hcell j (by omega)
  have hspot : spot = none := by simpa [Addr.add] using World.cell?_spot (hcell 0 (by omega))
  subst hspot
  have hc0 : w.cell? ⟨b, off + j, none⟩ = some (.int .u8 (zs.getD j 0)) := by
    rw [← hc]
    by_cases h0 : j = 0 <;> simp [Addr.add, h0]
  have hm : (Lit.int .u8 (zs.getD j 0)).wf = true := by
    refine hwz _ ?_
    have hj' : j < zs.length := by omega
    have e : zs.getD j 0 = zs[j] := by simp [hj']
    rw [e]
    exact List.getElem_mem _
  have hbd := bounds_u8 hm
  exact ⟨b, off, zs.getD j 0, rfl, cell_lt hc0, hc0, hbd.1, hbd.2⟩

end Cu
end Go.Proofs.YtbgbddahniacbaaGreatDoor

/- The contracts of the two sides of WordOk, and the plain facts on words. -/
namespace Go.Proofs.YtbgbddahniacbaaGreatDoor
namespace Wd
open Go.ChangeShapes Go.WideShapes Go.ChangeAt Go.RowKit

def okB (n : Int) : Bool := decide (-2147483648 ≤ n) && decide (n ≤ 2147483647)

theorem ok_yes {n : Int} (h : okB n = true) : -2147483648 ≤ n ∧ n ≤ 2147483647 := by
  simpa [okB] using h
theorem ok_no {n : Int} (h : okB n = false) : n < -2147483648 ∨ 2147483647 < n := by
  simp [okB] at h
  omega
theorem wrap_bd (n : Int) : -2147483648 ≤ wrap32 n ∧ wrap32 n ≤ 2147483647 := by
  unfold wrap32; omega
theorem wrap_ne {n : Int} (h : okB n = false) : (wrap32 n == n) = false := by
  have h1 := ok_no h
  have h2 := wrap_bd n
  simp; omega
theorem wrap_eq {n : Int} (h : okB n = true) : wrap32 n = n := by
  have h1 := ok_yes h
  unfold wrap32; omega
theorem wrap_ok (n : Int) : okB (wrap32 n) = true := by
  have h := wrap_bd n
  simp [okB, h]

theorem w32_64 (n : Int) : wrap32 (wrap64 n) = wrap32 n := by
  unfold wrap32 wrap64; omega
theorem ret_int {k : IntKind} {a b : Int} (h : a = b) : Ending.returned (.int k a) = .returned (.int k b) := by rw [h]

def plusF (a b : Int) : Int := if okB a && okB b then wrap32 (a + b) else 0
def minusF (a b : Int) : Int := if okB a && okB b then wrap32 (a - b) else 0
def timesF (a b : Int) : Int := if okB a && okB b then wrap32 (a * b) else 0
def overB (a b : Int) : Bool := okB a && okB b && !(b == 0)
def overF (a b : Int) : Int := if overB a b then wrap32 (a.tdiv b) else 0

theorem implWrap (n : Int) (w : World) :
    Calls Tryz.prog 85 #[.int .i64 n] w fun e w' => e = .returned (.int .i64 (wrap32 n)) ∧ w = w' := by
  have hb := (wrap_bd n).1
  have hc := (wrap_bd n).2
  go_enter Tryz.func85, Tryz.ntmps85
  go_wp2
  go_ret
  exact ⟨rfl, rfl⟩
theorem implWordOk (n : Int) (w : World) :
    Calls Tryz.prog 72 #[.int .i64 n] w fun e w' => e = .returned (.bool (okB n)) ∧ w = w' := by
  have hb := (wrap_bd n).1
  have hc := (wrap_bd n).2
  cases h : okB n
  · have h1 := wrap_ne h
    clear h
    go_enter Tryz.func72, Tryz.ntmps72
    go_wp2
    go_ret
    exact ⟨rfl, rfl⟩
  · have h1 := (ok_yes h).1
    have h2 := (ok_yes h).2
    clear h
    go_enter Tryz.func72, Tryz.ntmps72
    go_wp2
    go_ret
    exact ⟨rfl, rfl⟩
theorem specWordOk (n : Int) (w : World) :
    Calls Tryz.prog 95 #[.int .i64 n] w fun e w' => e = .returned (.bool (okB n)) ∧ w = w' := by
  by_cases h1 : -2147483648 ≤ n
  · by_cases h2 : n ≤ 2147483647
    · have e : okB n = true := by simp [okB, h1, h2]
      rw [e]
      clear e
      go_enter Tryz.func95, Tryz.ntmps95
      go_wp2
      go_ret
      exact ⟨rfl, rfl⟩
    · have e : okB n = false := by simp [okB, h2]
      rw [e]
      clear e
      go_enter Tryz.func95, Tryz.ntmps95
      go_wp2
      go_ret
      exact ⟨rfl, rfl⟩
  · have e : okB n = false := by simp [okB, h1]
    rw [e]
    clear e
    go_enter Tryz.func95, Tryz.ntmps95
    go_wp2
    go_ret
    exact ⟨rfl, rfl⟩

end Wd
end Go.Proofs.YtbgbddahniacbaaGreatDoor

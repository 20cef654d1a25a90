/- The contract of the laws' own choice of a number. -/
import Derived.Test.YtcbbpmknomhedaaJCur5
import Derived.OpenShut
import Derived.Test.YtcbbpmknomhedaaRows
import Derived.WalkKit
import Derived.ProofKit
import Derived.Lib.ItoaMem
import Derived.Lib.ItoaLen
import Derived.Lib.ParseIntBTie
import Derived.Lib.Split
import Derived.Lib.Join
namespace Go.Proofs.Ytcbbpmknomhedaa
namespace Cu
open Go.ChangeShapes Go.WideShapes Go.ChangeAt Go.RowKit

theorem cell_lt {w : World} {p : Addr} {v : Value} (h : w.cell? p = some v) : p.block < w.heap.size := by
  refine Nat.lt_of_not_le fun hn => ?_
  have hnone : w.heap[p.block]? = none := Array.getElem?_eq_none hn
  simp [World.cell?, hnone] at h

/-- A row of bytes that came in, of at most 4096 cells. -/
theorem bytes_of {w : World} {x : Addr} {len cap : Nat} {zs : List Int} (hl : len ≤ cap) (hz : zs.length = cap)
    (hcell : ∀ i, i < zs.length → w.cell? (x.add i) = some (.int .u8 (zs.getD i 0))) (hwz : ∀ n ∈ zs, (Lit.int .u8 n).wf = true) (h4 : len ≤ 4096) :
    Bytes w.heap.size w (some x) len := by
  refine ⟨h4, fun j hj => ?_⟩
  obtain ⟨b, off, spot⟩ := x
  have hc := hcell j (by omega)
  have hspot : spot = none := by simpa [Addr.add] using World.cell?_spot (hcell 0 (by omega))
  subst hspot
  have hc0 : w.cell? ⟨b, off + j, none⟩ = some (.int .u8 (zs.getD j 0)) := by
    rw [← hc]
    by_cases h0 : j = 0 <;> simp [Addr.add, h0]
  have hm : (Lit.int .u8 (zs.getD j 0)).wf = true := by
    refine hwz _ ?_
    have hj' : j < zs.length := by omega
    have e : zs.getD j 0 = zs[j] := by simp [hj']
    rw [e]
    exact List.getElem_mem _
  have hbd := bounds_u8 hm
  exact ⟨b, off, zs.getD j 0, rfl, cell_lt hc0, hc0, hbd.1, hbd.2⟩

end Cu
end Go.Proofs.Ytcbbpmknomhedaa

/- The contracts of the two sides of WordOk, and the plain facts on words. -/
namespace Go.Proofs.Ytcbbpmknomhedaa
namespace Wd
open Go.ChangeShapes Go.WideShapes Go.ChangeAt Go.RowKit

def okB (n : Int) : Bool := decide (-2147483648 ≤ n) && decide (n ≤ 2147483647)

theorem ok_yes {n : Int} (h : okB n = true) : -2147483648 ≤ n ∧ n ≤ 2147483647 := by
  simpa [okB] using h
theorem ok_no {n : Int} (h : okB n = false) : n < -2147483648 ∨ 2147483647 < n := by
  simp [okB] at h
  omega
theorem wrap_bd (n : Int) : -2147483648 ≤ wrap32 n ∧ wrap32 n ≤ 2147483647 := by
  unfold wrap32; omega
theorem wrap_ne {n : Int} (h : okB n = false) : (wrap32 n == n) = false := by
  have h1 := ok_no h
  have h2 := wrap_bd n
  simp; omega
theorem implWordOk (n : Int) (w : World) :
    Calls Try.prog 93 #[.int .i64 n] w fun e w' => e = .returned (.bool (okB n)) ∧ w = w' := by
  have hb := (wrap_bd n).1
  have hc := (wrap_bd n).2
  cases h : okB n
  · have h1 := wrap_ne h
    clear h
    go_enter Try.func93, Try.ntmps93
    go_wp2
    go_ret
    exact ⟨rfl, rfl⟩
  · have h1 := (ok_yes h).1
    have h2 := (ok_yes h).2
    clear h
    go_enter Try.func93, Try.ntmps93
    go_wp2
    go_ret
    exact ⟨rfl, rfl⟩
theorem specWordOk (n : Int) (w : World) :
    Calls Try.prog 96 #[.int .i64 n] w fun e w' => e = .returned (.bool (okB n)) ∧ w = w' := by
  by_cases h1 : -2147483648 ≤ n
  · by_cases h2 : n ≤ 2147483647
    · have e : okB n = true := by simp [okB, h1, h2]
      rw [e]
      clear e
      go_enter Try.func96, Try.ntmps96
      go_wp2
      go_ret
      exact ⟨rfl, rfl⟩
    · have e : okB n = false := by simp [okB, h2]
      rw [e]
      clear e
      go_enter Try.func96, Try.ntmps96
      go_wp2
      go_ret
      exact ⟨rfl, rfl⟩
  · have e : okB n = false := by simp [okB, h1]
    rw [e]
    clear e
    go_enter Try.func96, Try.ntmps96
    go_wp2
    go_ret
    exact ⟨rfl, rfl⟩

end Wd
end Go.Proofs.Ytcbbpmknomhedaa

/- Plain facts on texts: numerals read back, texts cut at a byte, steps shown and read. No program in it. -/
namespace Go.Proofs.Ytcbbpmknomhedaa
namespace Tx
open Go.Lib

/-! Digits -/
/-! The reader of the other side -/
/-! Texts cut at a byte -/
/-! Steps -/
def cnt (op : Int) : Nat :=
  if op = 1 ∨ op = 2 ∨ op = 3 ∨ op = 11 ∨ op = 12 ∨ op = 14 then 1 else if op = 15 ∨ op = 16 ∨ op = 17 then 2 else 0
def limA (op : Int) : Int :=
  if op = 2 ∨ op = 3 then 8 else if op = 11 ∨ op = 12 then 40 else if op = 14 ∨ op = 15 ∨ op = 16 ∨ op = 17 then 6 else if 4 ≤ op ∧ op ≤ 20 then 1 else 0
def limB (op : Int) : Int := if op = 15 ∨ op = 16 then 4 else if op = 17 then 20 else if 2 ≤ op ∧ op ≤ 20 then 1 else 0
def okI (op a b : Int) : Bool :=
  if op = 1 then decide (-2147483648 ≤ a) && decide (a ≤ 2147483647) && decide (b = 0)
  else decide (0 ≤ a) && decide (a < limA op) && decide (0 ≤ b) && decide (b < limB op)
theorem ok_op {op a b : Int} (h : okI op a b = true) : 1 ≤ op ∧ op ≤ 20 := by
  unfold okI at h
  split at h
  · omega
  · simp only [Bool.and_eq_true, decide_eq_true_eq] at h
    unfold limA at h; (repeat' split at h) <;> omega
/-! Code -/
abbrev Ins := Int × Int × Int
def okT (i : Ins) : Bool := okI i.1 i.2.1 i.2.2
def okC (l : List Ins) : Bool := decide (l.length ≤ 40) && l.all okT
end Tx
end Go.Proofs.Ytcbbpmknomhedaa

/- Contracts of both sides' FieldsOf. -/
import Derived.Test.YtnlanikjlokboaaPi3
import Derived.Test.YtnlanikjlokboaaPs1
import Derived.Test.YtnlanikjlokboaaPf0
namespace Go.Proofs.Ytnlanikjlokboaa
namespace Pg
open Go.ChangeShapes Go.WideShapes Go.ChangeAt Go.RowKit St

def inB (p : Prg) (t : Int) : Bool := decide (0 ≤ t) && decide (t < (p.length : Int))
theorem fieldsF_split (p : Prg) (t : Int) : fieldsF p t = if okP p && inB p t then fieldsR p 6 t else [] := rfl
theorem Grow.base {B B' : Nat} {w : World} {v : Value} {l : List Int} (h : Grow B w v l) (hB : B' ≤ B) : Grow B' w v l := ⟨ownBase h.1 hB, h.2⟩
theorem grow_nil1 (w : World) (B : Nat) (hB : B ≤ w.heap.size) : Grow B (w.alloc (.cells #[] 2)) (.slice (some ⟨w.heap.size, 0, none⟩) 0 0) [] := by
  refine ⟨ownBase (B := w.heap.size) ?_ hB, by simp⟩
  have h : (w.alloc (.cells #[] 2)).ownsRow w.heap.size 2 1 (.slice (some ⟨w.heap.size, 0, none⟩) 0 0) 0 [] := World.ownsRow_made w #[] 0 (Nat.le_refl _) (by decide) (by simp)
  simpa [nums] using h

set_option maxHeartbeats 1000000 in
theorem l4In (B : Nat) (p : Prg) (a : Option Addr) (cap : Nat) (t : Int) (hsp : SmallP p) (w : World) (hp : SK front B w (.slice a p.length cap) p) :
    Calls Try.prog 59 #[.agg #[.slice a p.length cap], .int .i64 t] w fun e w' => e = .returned (.bool (okP p && inB p t)) ∧ Below w.heap.size w w' := by
  have HSP : Hid (SmallP p) := hsp
  have HP : Hid (SK front B w (.slice a p.length cap) p) := hp
  clear hp hsp
  obtain ⟨W, hW⟩ : ∃ W, W = w.alloc (.cells #[.slice a p.length cap] 42) := ⟨_, rfl⟩
  have hwW : Below w.heap.size w W := by rw [hW]; exact (Below.refl _ _).alloc (Nat.le_refl _) _
  have P0 : Hid (Cells W w.heap.size [.slice a p.length cap]) := by rw [hW]; exact Cells.new w _ rfl _ _
  go_enter Try.func59, Try.ntmps59
  go_wp2_with fail
  rw [← hW]
  clear hW
  refine (specProgramOk B p a cap HSP.out _ (SK.on HP.out (Keep.of hwW))).mono ?_
  rintro e w1 ⟨rfl, hb1⟩
  have hw1 : Below w.heap.size w w1 := below_over hwW hb1
  obtain ⟨q0, _⟩ := (P0.out.on hb1).g0
  clear hb1 P0
  cases hok : okP p
  · have HN : Hid ((okP p && inB p t) = false) := by show _ = _; rw [hok]; rfl
    go_wp2
    go_ret
    exact ⟨retB HN.out.symm, hw1⟩
  · by_cases h0 : 0 ≤ t
    · have HN : Hid ((okP p && inB p t) = decide (t < (p.length : Int))) := by show _ = _; rw [hok]; simp [inB, h0]
      by_cases h1 : t < (p.length : Int)
      · have HX : Hid ((okP p && inB p t) = true) := by show _ = _; rw [HN.out]; simp [h1]
        go_wp2
        go_ret
        exact ⟨retB HX.out.symm, hw1⟩
      · go_wp2
        go_ret
        exact ⟨retB HN.out.symm, hw1⟩
    · have HN : Hid (inB p t = false) := by show _ = _; simp [inB, h0]
      have HM : Hid ((okP p && inB p t) = false) := by show _ = _; rw [HN.out]; simp
      clear hok
      go_wp2
      go_ret
      exact ⟨retB HM.out.symm, hw1⟩

theorem fieldsF_len (p : Prg) (t : Int) : (fieldsF p t).length ≤ 24 := by
  unfold fieldsF
  split
  · rename_i h
    simp only [Bool.and_eq_true, decide_eq_true_eq] at h
    have hl := (okP_len h.1).2
    exact fieldsR_len (okP_sup h.1) hl (Nat.le_refl _) (okP_four h.1) 6 _ (by omega) h.2.2
  · simp
end Pg
end Go.Proofs.Ytnlanikjlokboaa

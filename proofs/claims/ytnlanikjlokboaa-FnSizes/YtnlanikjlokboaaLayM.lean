/- More plain facts on the least layout. -/
import Derived.Test.YtnlanikjlokboaaLay
namespace Go.Proofs.Ytnlanikjlokboaa
namespace Lay

theorem lay_le {l : List Tx.Ins} {v : List Int} (h : rightB l v = true) (i : Nat) : wd (layF l) i ≤ wd v i := (least_lay l).2 v ((right_iff l v).1 h) i
theorem lay_right (l : List Tx.Ins) : rightB l (layF l) = true := (right_iff _ _).2 (least_lay l).1
theorem lay_cut {l : List Tx.Ins} {i : Nat} (hi : i < l.length) (h1 : wd (layF l) i = 1) : rightB l ((layF l).set i 0) = false := by
  cases hh : rightB l ((layF l).set i 0)
  · rfl
  · have := (least_lay l).2 _ ((right_iff _ _).1 hh) i
    rw [wd_set _ _ _ _ (by rw [lay_len]; exact hi), if_pos rfl, h1] at this
    omega
theorem lay_bit (l : List Tx.Ins) (i : Nat) : wd (layF l) i = 0 ∨ wd (layF l) i = 1 := (least_lay l).1.1.bit i
theorem pl_rise {l : List Tx.Ins} {v : List Int} (hv : ∀ k, wd v k = 0 ∨ wd v k = 1) (k : Nat) : pl l v k < pl l v (k + 1) := by
  have h1 := (bytes_bd (ins l k).1 (ins l k).2.1).1
  have h2 := hv k
  simp only [pl, sz]
  omega
theorem pl_least {l : List Tx.Ins} {v : List Int} (h : rightB l v = true) : pl l (layF l) l.length ≤ pl l v l.length := by
  have h1 := (span (l := l) (lay_bit l) ((least_lay l).2 v ((right_iff l v).1 h)) 0 l.length).2
  simp only [Nat.zero_add, pl] at h1
  omega
theorem right_len {l : List Tx.Ins} {v : List Int} (h : rightB l v = true) : v.length = l.length := ((right_iff l v).1 h).1.1
end Lay
end Go.Proofs.Ytnlanikjlokboaa

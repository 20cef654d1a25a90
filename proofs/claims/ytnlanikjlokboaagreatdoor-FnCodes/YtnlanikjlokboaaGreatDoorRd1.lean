/- The contract of the other side's reading of a number, at every text. -/
import Derived.Test.YtnlanikjlokboaaGreatDoorRd0
namespace Go.Proofs.YtnlanikjlokboaaGreatDoor
namespace St
open Go.ChangeShapes Go.WideShapes Go.ChangeAt Go.RowKit

theorem rd_out {l : List UInt8} (h : (Tx.bodyL l).length < 1 ∨ (Tx.bodyL l).length > 10) : Tx.rdL l = 0 := by unfold Tx.rdL; rw [if_pos h]

set_option maxHeartbeats 1000000 in
theorem read_at (s : ByteArray) (hs : s.size ≤ 2000000) (w : World) :
    Calls Tryz.prog 41 #[.string s] w fun e w' => RdPost (Tx.rdL s.data.toList) w e w' := by
  have hsl : s.data.toList.length = s.size := by simp
  cases he : s.toList.isEmpty
  · have hp : 0 < s.size := by
      obtain ⟨hp, _⟩ : ∃ (hp : 0 < s.size), True := by
        rw [Lib.toList_data] at he
        cases hh : s.data.toList with
        | nil => rw [hh] at he; simp at he
        | cons c r => exact ⟨by rw [hh] at hsl; simp at hsl; omega, trivial⟩
      exact hp
    cases h45 : ((s[0].toNat : Int) == 45)
    · have hneg : Tx.negL s.data.toList = false := by
        rw [neg_of hp]
        cases hq : (s[0] == 45)
        · rfl
        · have := (u8_eq s[0] 45 (by omega)).2 (by have := eq_of_beq hq; rw [this]; rfl)
          rw [show ((45 : Nat) : Int) = 45 from rfl] at this
          rw [this] at h45; simp at h45
      have hbody : Tx.bodyL s.data.toList = s.data.toList.drop 0 := by simp [Tx.bodyL, hneg]
      by_cases h10 : s.size ≤ 10
      · exact read0 s hs w hp he h45 hp (by omega) hbody hneg
      · have HF : Hid (Tx.rdL s.data.toList = 0) := rd_out (by rw [hbody]; rw [List.length_drop, hsl]; omega)
        clear hbody hneg hsl
        have t1 : ¬ ((s.size : Int) < 1) := by omega
        have t2 : (10 : Int) < (s.size : Int) := by omega
        go_enter Tryz.func41, Tryz.ntmps41
        go_wp2
        go_ret2
        exact RdPost.mk HF.out
    · have hneg : Tx.negL s.data.toList = true := by
        rw [neg_of hp]
        have := (u8_eq s[0] 45 (by omega)).1 h45
        rw [this]; rfl
      have hbody : Tx.bodyL s.data.toList = s.data.toList.drop 1 := by simp [Tx.bodyL, hneg]
      by_cases h10 : 1 < s.size ∧ s.size - 1 ≤ 10
      · exact read1 s hs w hp he h45 h10.1 h10.2 hbody hneg
      · have HF : Hid (Tx.rdL s.data.toList = 0) := rd_out (by rw [hbody]; rw [List.length_drop, hsl]; omega)
        clear hbody hneg hsl
        by_cases h1 : s.size = 1
        · have t1 : (s.size : Int) - 1 < 1 := by omega
          go_enter Tryz.func41, Tryz.ntmps41
          go_wp2
          go_ret2
          exact RdPost.mk HF.out
        · have t1 : ¬ ((s.size : Int) - 1 < 1) := by omega
          have t2 : (10 : Int) < (s.size : Int) - 1 := by omega
          go_enter Tryz.func41, Tryz.ntmps41
          go_wp2
          go_ret2
          exact RdPost.mk HF.out
  · have hs0 : s.data.toList = [] := by rw [Lib.toList_data] at he; exact List.isEmpty_iff.1 he
    have hz : s.size = 0 := by rw [hs0] at hsl; simpa using hsl.symm
    rw [hs0]
    clear hs0 hsl
    have HF : Hid (Tx.rdL [] = 0) := rfl
    have t1 : ((s.size : Int)) < 1 := by omega
    go_enter Tryz.func41, Tryz.ntmps41
    go_wp2
    go_ret2
    exact RdPost.mk HF.out
end St
end Go.Proofs.YtnlanikjlokboaaGreatDoor

/- The walk of the law FnWords: over bytes of at most 4096 cells it returns true, and nothing old has turned. -/
import Derived.Test.YtmadhhjdplekaaaWMath
import Derived.Test.YtmadhhjdplekaaaCur6
import Derived.BigQuiet
import Derived.Deep.QuietTactic
namespace Go.Proofs.Ytmadhhjdplekaaa
namespace FW
open Go.ChangeShapes Go.WideShapes Go.ChangeAt Go.RowKit

theorem qs {P : Program} {f : FuncId} {args : Array Value} {w : World} {n : Nat} {v : Value}
    (h : Calls P f args (w.drewN n) fun e w' => e = .returned v ∧ w.drewN n = w') : Calls P f args (w.drewN n) fun e w'' => e = .returned v ∧ ∃ m, w'' = w.drewN m :=
  h.mono fun _ _ ⟨he, hm⟩ => ⟨he, n, hm.symm⟩

set_option maxRecDepth 100000 in
set_option maxHeartbeats 1000000 in
theorem words_small (w : World) (a0 : Option Addr) (len cap : Nat) (hB : Cu.Bytes w.heap.size w a0 len) :
    Calls Try.prog 3 #[.slice a0 len cap] w fun e w' => e = .returned (.bool true) ∧ Below w.heap.size w w' := by
  have hl := hB.1
  have hnb : decide ((4096 : Int) < (len : Int)) = false := by simp; omega
  go_enter Try.func3, Try.ntmps3
  go_wp2_with fail
  refine (Cu.big_at _ _ _ _).mono ?_
  rintro e w1 ⟨rfl, rfl⟩
  go_wp2_with fail
  refine (Cu.drawPlus_at w.heap.size _ _ _ _ hB (Nat.le_refl _)).mono ?_
  rintro e w1 ⟨a, b, rfl, hb1⟩
  cases ha : Wd.okB a
  · have p1 : Wd.plusF a b = 0 := by simp [Wd.plusF, ha]
    have p2 : Wd.minusF a b = 0 := by simp [Wd.minusF, ha]
    have p3 : Wd.timesF a b = 0 := by simp [Wd.timesF, ha]
    have p4 : Wd.overB a b = false := by simp [Wd.overB, ha]
    go_wp2_with (first
      | (go_at_call 11; refine (Wd.implPlus _ _ _).mono ?_; rintro e w' ⟨rfl, rfl⟩)
      | (go_at_call 12; refine (Wd.implMinus _ _ _).mono ?_; rintro e w' ⟨rfl, rfl⟩)
      | (go_at_call 13; refine (Wd.implTimes _ _ _).mono ?_; rintro e w' ⟨rfl, rfl⟩)
      | (go_at_call 14; refine (Wd.implOver _ _ _).mono ?_; rintro e w' ⟨rfl, rfl⟩))
    refine (Cu.drawWrap_at w.heap.size _ _ _ _ (hB.below hb1) hb1.size).mono ?_
    rintro e w2 ⟨n, rfl, hb2⟩
    have hb := hb1.trans (hb2.mono hb1.size)
    have hw := Wd.wrap_ok n
    have hr := Wd.rest_zero n
    go_wp2_with (first
      | (go_at_call 16; refine (Wd.implWrap _ _).mono ?_; rintro e w' ⟨rfl, rfl⟩)
      | (go_at_call 20; refine (Wd.specWrap _ _).mono ?_; rintro e w' ⟨rfl, rfl⟩)
      | (go_at_call 21; refine (Wd.implWordOk _ _).mono ?_; rintro e w' ⟨rfl, rfl⟩)
      | (go_at_call 22; refine (Wd.specWordOk _ _).mono ?_; rintro e w' ⟨rfl, rfl⟩)
      | (go_at_call 17; refine (Wd.specPlus _ _ _).mono ?_; rintro e w' ⟨rfl, rfl⟩)
      | (go_at_call 18; refine (Wd.specMinus _ _ _).mono ?_; rintro e w' ⟨rfl, rfl⟩)
      | (go_at_call 19; refine (Wd.specTimes _ _ _).mono ?_; rintro e w' ⟨rfl, rfl⟩)
      | (go_at_call 23; refine (Wd.specOver _ _ _).mono ?_; rintro e w' ⟨rfl, rfl⟩))
    go_ret
    exact ⟨rfl, hb⟩
  · cases hb' : Wd.okB b
    · have p1 : Wd.plusF a b = 0 := by simp [Wd.plusF, hb']
      have p2 : Wd.minusF a b = 0 := by simp [Wd.minusF, hb']
      have p3 : Wd.timesF a b = 0 := by simp [Wd.timesF, hb']
      have p4 : Wd.overB a b = false := by simp [Wd.overB, hb']
      go_wp2_with (first
        | (go_at_call 11; refine (Wd.implPlus _ _ _).mono ?_; rintro e w' ⟨rfl, rfl⟩)
        | (go_at_call 12; refine (Wd.implMinus _ _ _).mono ?_; rintro e w' ⟨rfl, rfl⟩)
        | (go_at_call 13; refine (Wd.implTimes _ _ _).mono ?_; rintro e w' ⟨rfl, rfl⟩)
        | (go_at_call 14; refine (Wd.implOver _ _ _).mono ?_; rintro e w' ⟨rfl, rfl⟩))
      refine (Cu.drawWrap_at w.heap.size _ _ _ _ (hB.below hb1) hb1.size).mono ?_
      rintro e w2 ⟨n, rfl, hb2⟩
      have hb := hb1.trans (hb2.mono hb1.size)
      have hw := Wd.wrap_ok n
      have hr := Wd.rest_zero n
      go_wp2_with (first
        | (go_at_call 16; refine (Wd.implWrap _ _).mono ?_; rintro e w' ⟨rfl, rfl⟩)
        | (go_at_call 20; refine (Wd.specWrap _ _).mono ?_; rintro e w' ⟨rfl, rfl⟩)
        | (go_at_call 21; refine (Wd.implWordOk _ _).mono ?_; rintro e w' ⟨rfl, rfl⟩)
        | (go_at_call 22; refine (Wd.specWordOk _ _).mono ?_; rintro e w' ⟨rfl, rfl⟩)
        | (go_at_call 17; refine (Wd.specPlus _ _ _).mono ?_; rintro e w' ⟨rfl, rfl⟩)
        | (go_at_call 18; refine (Wd.specMinus _ _ _).mono ?_; rintro e w' ⟨rfl, rfl⟩)
        | (go_at_call 19; refine (Wd.specTimes _ _ _).mono ?_; rintro e w' ⟨rfl, rfl⟩)
        | (go_at_call 23; refine (Wd.specOver _ _ _).mono ?_; rintro e w' ⟨rfl, rfl⟩))
      go_ret
      exact ⟨rfl, hb⟩
    · go_wp2_with (first
        | (go_at_call 11; refine (Wd.implPlus _ _ _).mono ?_; rintro e w' ⟨rfl, rfl⟩)
        | (go_at_call 12; refine (Wd.implMinus _ _ _).mono ?_; rintro e w' ⟨rfl, rfl⟩)
        | (go_at_call 13; refine (Wd.implTimes _ _ _).mono ?_; rintro e w' ⟨rfl, rfl⟩)
        | (go_at_call 14; refine (Wd.implOver _ _ _).mono ?_; rintro e w' ⟨rfl, rfl⟩))
      refine (Cu.drawWrap_at w.heap.size _ _ _ _ (hB.below hb1) hb1.size).mono ?_
      rintro e w2 ⟨n, rfl, hb2⟩
      have hb := hb1.trans (hb2.mono hb1.size)
      have hw := Wd.wrap_ok n
      have hr := Wd.rest_zero n
      go_wp2_with (first
        | (go_at_call 16; refine (Wd.implWrap _ _).mono ?_; rintro e w' ⟨rfl, rfl⟩)
        | (go_at_call 20; refine (Wd.specWrap _ _).mono ?_; rintro e w' ⟨rfl, rfl⟩)
        | (go_at_call 21; refine (Wd.implWordOk _ _).mono ?_; rintro e w' ⟨rfl, rfl⟩)
        | (go_at_call 22; refine (Wd.specWordOk _ _).mono ?_; rintro e w' ⟨rfl, rfl⟩)
        | (go_at_call 17; refine (Wd.specPlus _ _ _).mono ?_; rintro e w' ⟨rfl, rfl⟩)
        | (go_at_call 18; refine (Wd.specMinus _ _ _).mono ?_; rintro e w' ⟨rfl, rfl⟩)
        | (go_at_call 19; refine (Wd.specTimes _ _ _).mono ?_; rintro e w' ⟨rfl, rfl⟩)
        | (go_at_call 23; refine (Wd.specOver _ _ _).mono ?_; rintro e w' ⟨rfl, rfl⟩))
      refine (Cu.pick_at w.heap.size _ _ _ _ _ _ (hB.below hb) (by omega) (by omega) (by omega)).mono ?_
      rintro e w3 ⟨r, rfl, hr0, hr1, hr2, rfl⟩
      go_wp2_with fail
      refine (Wd.implWrap _ _).mono ?_
      rintro e w' ⟨rfl, rfl⟩
      have f1 := Wd.distr ha hb' (Wd.wrap_ok (r * 4000))
      have f2 := Wd.plus_minus ha hb'
      have f3 := Wd.minus_plus ha hb'
      cases h0 : (b == 0)
      · have f4 := Wd.over_back ha hb' h0 _ rfl
        have hb0 : ¬ b = 0 := by simpa using h0
        have hne : (b != 0) = true := by simp [bne, h0]
        have p4 : Wd.overB a b = true := by simp [Wd.overB, ha, hb', h0]
        go_wp2_with (first
          | (go_at_call 11; refine (Wd.implPlus _ _ _).mono ?_; rintro e w' ⟨rfl, rfl⟩)
          | (go_at_call 12; refine (Wd.implMinus _ _ _).mono ?_; rintro e w' ⟨rfl, rfl⟩)
          | (go_at_call 13; refine (Wd.implTimes _ _ _).mono ?_; rintro e w' ⟨rfl, rfl⟩))
        go_quiet ((first
          | (go_at_call 11; exact qs (Wd.implPlus _ _ _))
          | (go_at_call 13; exact qs (Wd.implTimes _ _ _))
          | (go_at_call 16; exact qs (Wd.implWrap _ _))))
        go_wp2
        go_ret
        exact ⟨rfl, below_drewN hb _⟩
      · have hne : (b != 0) = false := by simp [bne, h0]
        have p4 : Wd.overB a b = false := by simp [Wd.overB, ha, hb', h0]
        go_wp2_with (first
          | (go_at_call 11; refine (Wd.implPlus _ _ _).mono ?_; rintro e w' ⟨rfl, rfl⟩)
          | (go_at_call 12; refine (Wd.implMinus _ _ _).mono ?_; rintro e w' ⟨rfl, rfl⟩)
          | (go_at_call 13; refine (Wd.implTimes _ _ _).mono ?_; rintro e w' ⟨rfl, rfl⟩))
        go_quiet ((first
          | (go_at_call 11; exact qs (Wd.implPlus _ _ _))
          | (go_at_call 13; exact qs (Wd.implTimes _ _ _))
          | (go_at_call 16; exact qs (Wd.implWrap _ _))))
        go_wp2
        go_ret
        exact ⟨rfl, below_drewN hb _⟩

set_option maxRecDepth 100000 in
theorem words_big (w : World) (a0 : Option Addr) (len cap : Nat) (hl : ¬ len ≤ 4096) :
    Calls Try.prog 3 #[.slice a0 len cap] w fun e w' => e = .returned (.bool true) ∧ Below w.heap.size w w' := by
  have hnb : decide ((4096 : Int) < (len : Int)) = true := by simp; omega
  go_enter Try.func3, Try.ntmps3
  go_wp2_with (go_at_call 9; refine (Cu.big_at _ _ _ _).mono ?_; rintro e w1 ⟨rfl, rfl⟩)
  go_ret
  exact ⟨rfl, Below.refl _ _⟩
end FW
end Go.Proofs.Ytmadhhjdplekaaa

/- Contracts: do two come to nothing, on both sides. -/
import Derived.Test.YthabenjodhjgiaaPe0
import Derived.Test.YthabenjodhjgiaaFo3
import Derived.Test.YthabenjodhjgiaaGt0
namespace Go.Proofs.Ythabenjodhjgiaa
namespace Pg
open Go.ChangeShapes Go.WideShapes Go.ChangeAt Go.RowKit St Wd

set_option maxHeartbeats 2000000 in
theorem come_at (xo xa xb yo ya yb : Int) (w : World) :
    Calls Try.prog 67 #[.agg #[.int .i64 xo, .int .i64 xa, .int .i64 xb], .agg #[.int .i64 yo, .int .i64 ya, .int .i64 yb]] w fun e w' => e = .returned (.bool (pairB (xo, xa, xb) (yo, ya, yb))) ∧ Below w.heap.size w w' := by
  by_cases n0 : xo = 1
  · subst n0
    by_cases n0 : yo = 12
    · subst n0
      have HE : Hid (pairB (1, xa, xb) (12, ya, yb) = true) := by
        show _ = _
        unfold pairB
        simp [*]
      go_enter Try.func67, Try.ntmps67
      go_wp2
      refine wp_scope_gotos 4 ?_
      go_wp2
      repeat (refine wp_goto ?_; (try simp only [Exit.inBlock]); (try simp only [Exit.then]); refine jumps_goto rfl ?_; go_wp2)
      rw [jumps_ret]
      go_ret
      exact ⟨retB HE.out.symm, by go_grown⟩
    · by_cases n1 : xa = 0
      · subst n1
        by_cases n1 : yo = 4
        · subst n1
          have HE : Hid (pairB (1, 0, xb) (4, ya, yb) = true) := by
            show _ = _
            unfold pairB
            simp [*]
          clear n0
          go_enter Try.func67, Try.ntmps67
          go_wp2
          refine wp_scope_gotos 4 ?_
          go_wp2
          repeat (refine wp_goto ?_; (try simp only [Exit.inBlock]); (try simp only [Exit.then]); refine jumps_goto rfl ?_; go_wp2)
          rw [jumps_ret]
          go_ret
          exact ⟨retB HE.out.symm, by go_grown⟩
        · by_cases n2 : yo = 5
          · subst n2
            have HE : Hid (pairB (1, 0, xb) (5, ya, yb) = true) := by
              show _ = _
              unfold pairB
              simp [*]
            clear n0
            clear n1
            go_enter Try.func67, Try.ntmps67
            go_wp2
            refine wp_scope_gotos 4 ?_
            go_wp2
            repeat (refine wp_goto ?_; (try simp only [Exit.inBlock]); (try simp only [Exit.then]); refine jumps_goto rfl ?_; go_wp2)
            rw [jumps_ret]
            go_ret
            exact ⟨retB HE.out.symm, by go_grown⟩
          · by_cases n3 : yo = 9
            · subst n3
              have HE : Hid (pairB (1, 0, xb) (9, ya, yb) = true) := by
                show _ = _
                unfold pairB
                simp [*]
              clear n0
              clear n1
              clear n2
              go_enter Try.func67, Try.ntmps67
              go_wp2
              refine wp_scope_gotos 4 ?_
              go_wp2
              repeat (refine wp_goto ?_; (try simp only [Exit.inBlock]); (try simp only [Exit.then]); refine jumps_goto rfl ?_; go_wp2)
              rw [jumps_ret]
              go_ret
              exact ⟨retB HE.out.symm, by go_grown⟩
            · have HE : Hid (pairB (1, 0, xb) (yo, ya, yb) = false) := by
                show _ = _
                unfold pairB
                simp [*]
              have b0 : (yo == 12) = false := by simp [n0]
              have b1 : (yo == 4) = false := by simp [n1]
              have b2 : (yo == 5) = false := by simp [n2]
              have b3 : (yo == 9) = false := by simp [n3]
              clear n0
              clear n1
              clear n2
              clear n3
              go_enter Try.func67, Try.ntmps67
              go_wp2
              refine wp_scope_gotos 4 ?_
              go_wp2
              repeat (refine wp_goto ?_; (try simp only [Exit.inBlock]); (try simp only [Exit.then]); refine jumps_goto rfl ?_; go_wp2)
              rw [jumps_ret]
              go_ret
              exact ⟨retB HE.out.symm, by go_grown⟩
      · by_cases n2 : xa = 1
        · subst n2
          by_cases n2 : yo = 6
          · subst n2
            have HE : Hid (pairB (1, 1, xb) (6, ya, yb) = true) := by
              show _ = _
              unfold pairB
              simp [*]
            clear n0
            clear n1
            go_enter Try.func67, Try.ntmps67
            go_wp2
            refine wp_scope_gotos 4 ?_
            go_wp2
            repeat (refine wp_goto ?_; (try simp only [Exit.inBlock]); (try simp only [Exit.then]); refine jumps_goto rfl ?_; go_wp2)
            rw [jumps_ret]
            go_ret
            exact ⟨retB HE.out.symm, by go_grown⟩
          · by_cases n3 : yo = 7
            · subst n3
              have HE : Hid (pairB (1, 1, xb) (7, ya, yb) = true) := by
                show _ = _
                unfold pairB
                simp [*]
              clear n0
              clear n1
              clear n2
              go_enter Try.func67, Try.ntmps67
              go_wp2
              refine wp_scope_gotos 4 ?_
              go_wp2
              repeat (refine wp_goto ?_; (try simp only [Exit.inBlock]); (try simp only [Exit.then]); refine jumps_goto rfl ?_; go_wp2)
              rw [jumps_ret]
              go_ret
              exact ⟨retB HE.out.symm, by go_grown⟩
            · by_cases n4 : yo = 9
              · subst n4
                have HE : Hid (pairB (1, 1, xb) (9, ya, yb) = true) := by
                  show _ = _
                  unfold pairB
                  simp [*]
                clear n0
                clear n1
                clear n2
                clear n3
                go_enter Try.func67, Try.ntmps67
                go_wp2
                refine wp_scope_gotos 4 ?_
                go_wp2
                repeat (refine wp_goto ?_; (try simp only [Exit.inBlock]); (try simp only [Exit.then]); refine jumps_goto rfl ?_; go_wp2)
                rw [jumps_ret]
                go_ret
                exact ⟨retB HE.out.symm, by go_grown⟩
              · have HE : Hid (pairB (1, 1, xb) (yo, ya, yb) = false) := by
                  show _ = _
                  unfold pairB
                  simp [*]
                have b0 : (yo == 12) = false := by simp [n0]
                have b2 : (yo == 6) = false := by simp [n2]
                have b3 : (yo == 7) = false := by simp [n3]
                have b4 : (yo == 9) = false := by simp [n4]
                clear n0
                clear n1
                clear n2
                clear n3
                clear n4
                go_enter Try.func67, Try.ntmps67
                go_wp2
                refine wp_scope_gotos 4 ?_
                go_wp2
                repeat (refine wp_goto ?_; (try simp only [Exit.inBlock]); (try simp only [Exit.then]); refine jumps_goto rfl ?_; go_wp2)
                rw [jumps_ret]
                go_ret
                exact ⟨retB HE.out.symm, by go_grown⟩
        · by_cases n3 : yo = 9
          · subst n3
            have HE : Hid (pairB (1, xa, xb) (9, ya, yb) = true) := by
              show _ = _
              unfold pairB
              simp [*]
            have b1 : (xa == 0) = false := by simp [n1]
            have b2 : (xa == 1) = false := by simp [n2]
            clear n0
            clear n1
            clear n2
            go_enter Try.func67, Try.ntmps67
            go_wp2
            refine wp_scope_gotos 4 ?_
            go_wp2
            repeat (refine wp_goto ?_; (try simp only [Exit.inBlock]); (try simp only [Exit.then]); refine jumps_goto rfl ?_; go_wp2)
            rw [jumps_ret]
            go_ret
            exact ⟨retB HE.out.symm, by go_grown⟩
          · have HE : Hid (pairB (1, xa, xb) (yo, ya, yb) = false) := by
              show _ = _
              unfold pairB
              simp [*]
            have b0 : (yo == 12) = false := by simp [n0]
            have b1 : (xa == 0) = false := by simp [n1]
            have b2 : (xa == 1) = false := by simp [n2]
            have b3 : (yo == 9) = false := by simp [n3]
            clear n0
            clear n1
            clear n2
            clear n3
            go_enter Try.func67, Try.ntmps67
            go_wp2
            refine wp_scope_gotos 4 ?_
            go_wp2
            repeat (refine wp_goto ?_; (try simp only [Exit.inBlock]); (try simp only [Exit.then]); refine jumps_goto rfl ?_; go_wp2)
            rw [jumps_ret]
            go_ret
            exact ⟨retB HE.out.symm, by go_grown⟩
  · by_cases n1 : xo = 2
    · subst n1
      by_cases n1 : yo = 9
      · subst n1
        have HE : Hid (pairB (2, xa, xb) (9, ya, yb) = true) := by
          show _ = _
          unfold pairB
          simp [*]
        clear n0
        go_enter Try.func67, Try.ntmps67
        go_wp2
        refine wp_scope_gotos 4 ?_
        go_wp2
        repeat (refine wp_goto ?_; (try simp only [Exit.inBlock]); (try simp only [Exit.then]); refine jumps_goto rfl ?_; go_wp2)
        rw [jumps_ret]
        go_ret
        exact ⟨retB HE.out.symm, by go_grown⟩
      · have HE : Hid (pairB (2, xa, xb) (yo, ya, yb) = false) := by
          show _ = _
          unfold pairB
          simp [*]
        have b1 : (yo == 9) = false := by simp [n1]
        clear n0
        clear n1
        go_enter Try.func67, Try.ntmps67
        go_wp2
        refine wp_scope_gotos 4 ?_
        go_wp2
        repeat (refine wp_goto ?_; (try simp only [Exit.inBlock]); (try simp only [Exit.then]); refine jumps_goto rfl ?_; go_wp2)
        rw [jumps_ret]
        go_ret
        exact ⟨retB HE.out.symm, by go_grown⟩
    · by_cases n2 : xo = 13
      · subst n2
        by_cases n2 : yo = 9
        · subst n2
          have HE : Hid (pairB (13, xa, xb) (9, ya, yb) = true) := by
            show _ = _
            unfold pairB
            simp [*]
          clear n0
          clear n1
          go_enter Try.func67, Try.ntmps67
          go_wp2
          refine wp_scope_gotos 4 ?_
          go_wp2
          repeat (refine wp_goto ?_; (try simp only [Exit.inBlock]); (try simp only [Exit.then]); refine jumps_goto rfl ?_; go_wp2)
          rw [jumps_ret]
          go_ret
          exact ⟨retB HE.out.symm, by go_grown⟩
        · have HE : Hid (pairB (13, xa, xb) (yo, ya, yb) = false) := by
            show _ = _
            unfold pairB
            simp [*]
          have b2 : (yo == 9) = false := by simp [n2]
          clear n0
          clear n1
          clear n2
          go_enter Try.func67, Try.ntmps67
          go_wp2
          refine wp_scope_gotos 4 ?_
          go_wp2
          repeat (refine wp_goto ?_; (try simp only [Exit.inBlock]); (try simp only [Exit.then]); refine jumps_goto rfl ?_; go_wp2)
          rw [jumps_ret]
          go_ret
          exact ⟨retB HE.out.symm, by go_grown⟩
      · by_cases n3 : xo = 8
        · subst n3
          by_cases n3 : yo = 9
          · subst n3
            have HE : Hid (pairB (8, xa, xb) (9, ya, yb) = true) := by
              show _ = _
              unfold pairB
              simp [*]
            clear n0
            clear n1
            clear n2
            go_enter Try.func67, Try.ntmps67
            go_wp2
            refine wp_scope_gotos 4 ?_
            go_wp2
            repeat (refine wp_goto ?_; (try simp only [Exit.inBlock]); (try simp only [Exit.then]); refine jumps_goto rfl ?_; go_wp2)
            rw [jumps_ret]
            go_ret
            exact ⟨retB HE.out.symm, by go_grown⟩
          · have HE : Hid (pairB (8, xa, xb) (yo, ya, yb) = false) := by
              show _ = _
              unfold pairB
              simp [*]
            have b3 : (yo == 9) = false := by simp [n3]
            clear n0
            clear n1
            clear n2
            clear n3
            go_enter Try.func67, Try.ntmps67
            go_wp2
            refine wp_scope_gotos 4 ?_
            go_wp2
            repeat (refine wp_goto ?_; (try simp only [Exit.inBlock]); (try simp only [Exit.then]); refine jumps_goto rfl ?_; go_wp2)
            rw [jumps_ret]
            go_ret
            exact ⟨retB HE.out.symm, by go_grown⟩
        · by_cases n4 : xo = 10
          · subst n4
            by_cases n4 : yo = 10
            · subst n4
              have HE : Hid (pairB (10, xa, xb) (10, ya, yb) = true) := by
                show _ = _
                unfold pairB
                simp [*]
              clear n0
              clear n1
              clear n2
              clear n3
              go_enter Try.func67, Try.ntmps67
              go_wp2
              refine wp_scope_gotos 4 ?_
              go_wp2
              repeat (refine wp_goto ?_; (try simp only [Exit.inBlock]); (try simp only [Exit.then]); refine jumps_goto rfl ?_; go_wp2)
              rw [jumps_ret]
              go_ret
              exact ⟨retB HE.out.symm, by go_grown⟩
            · have HE : Hid (pairB (10, xa, xb) (yo, ya, yb) = false) := by
                show _ = _
                unfold pairB
                simp [*]
              have b4 : (yo == 10) = false := by simp [n4]
              clear n0
              clear n1
              clear n2
              clear n3
              clear n4
              go_enter Try.func67, Try.ntmps67
              go_wp2
              refine wp_scope_gotos 4 ?_
              go_wp2
              repeat (refine wp_goto ?_; (try simp only [Exit.inBlock]); (try simp only [Exit.then]); refine jumps_goto rfl ?_; go_wp2)
              rw [jumps_ret]
              go_ret
              exact ⟨retB HE.out.symm, by go_grown⟩
          · have HE : Hid (pairB (xo, xa, xb) (yo, ya, yb) = false) := by
              show _ = _
              unfold pairB
              simp [*]
            have b0 : (xo == 1) = false := by simp [n0]
            have b1 : (xo == 2) = false := by simp [n1]
            have b2 : (xo == 13) = false := by simp [n2]
            have b3 : (xo == 8) = false := by simp [n3]
            have b4 : (xo == 10) = false := by simp [n4]
            clear n0
            clear n1
            clear n2
            clear n3
            clear n4
            go_enter Try.func67, Try.ntmps67
            go_wp2
            refine wp_scope_gotos 4 ?_
            go_wp2
            repeat (refine wp_goto ?_; (try simp only [Exit.inBlock]); (try simp only [Exit.then]); refine jumps_goto rfl ?_; go_wp2)
            rw [jumps_ret]
            go_ret
            exact ⟨retB HE.out.symm, by go_grown⟩
set_option maxHeartbeats 2000000 in
theorem l11Pair_at (xo xa xb yo ya yb : Int) (w : World) :
    Calls Try.prog 65 #[.agg #[.int .i64 xo, .int .i64 xa, .int .i64 xb], .agg #[.int .i64 yo, .int .i64 ya, .int .i64 yb]] w fun e w' => e = .returned (.bool (pairB (xo, xa, xb) (yo, ya, yb))) ∧ Below w.heap.size w w' := by
  by_cases n0 : yo = 9
  · subst n0
    by_cases n0 : xo = 1
    · subst n0
      have HE : Hid (pairB (1, xa, xb) (9, ya, yb) = true) := by
        show _ = _
        unfold pairB
        simp [*]
      go_enter Try.func65, Try.ntmps65
      go_wp2
      go_ret
      exact ⟨retB HE.out.symm, by go_grown⟩
    · by_cases n1 : xo = 2
      · subst n1
        have HE : Hid (pairB (2, xa, xb) (9, ya, yb) = true) := by
          show _ = _
          unfold pairB
          simp [*]
        clear n0
        go_enter Try.func65, Try.ntmps65
        go_wp2
        go_ret
        exact ⟨retB HE.out.symm, by go_grown⟩
      · by_cases n2 : xo = 13
        · subst n2
          have HE : Hid (pairB (13, xa, xb) (9, ya, yb) = true) := by
            show _ = _
            unfold pairB
            simp [*]
          clear n0
          clear n1
          go_enter Try.func65, Try.ntmps65
          go_wp2
          go_ret
          exact ⟨retB HE.out.symm, by go_grown⟩
        · by_cases n3 : xo = 8
          · subst n3
            have HE : Hid (pairB (8, xa, xb) (9, ya, yb) = true) := by
              show _ = _
              unfold pairB
              simp [*]
            clear n0
            clear n1
            clear n2
            go_enter Try.func65, Try.ntmps65
            go_wp2
            go_ret
            exact ⟨retB HE.out.symm, by go_grown⟩
          · have HE : Hid (pairB (xo, xa, xb) (9, ya, yb) = false) := by
              show _ = _
              unfold pairB
              simp [*]
            have b0 : (xo == 1) = false := by simp [n0]
            have b1 : (xo == 2) = false := by simp [n1]
            have b2 : (xo == 13) = false := by simp [n2]
            have b3 : (xo == 8) = false := by simp [n3]
            clear n0
            clear n1
            clear n2
            clear n3
            go_enter Try.func65, Try.ntmps65
            go_wp2
            go_ret
            exact ⟨retB HE.out.symm, by go_grown⟩
  · by_cases n1 : yo = 10
    · subst n1
      by_cases n1 : xo = 10
      · subst n1
        have HE : Hid (pairB (10, xa, xb) (10, ya, yb) = true) := by
          show _ = _
          unfold pairB
          simp [*]
        clear n0
        go_enter Try.func65, Try.ntmps65
        go_wp2
        go_ret
        exact ⟨retB HE.out.symm, by go_grown⟩
      · have HE : Hid (pairB (xo, xa, xb) (10, ya, yb) = false) := by
          show _ = _
          unfold pairB
          simp [*]
        have b1 : (xo == 10) = false := by simp [n1]
        clear n0
        clear n1
        go_enter Try.func65, Try.ntmps65
        go_wp2
        go_ret
        exact ⟨retB HE.out.symm, by go_grown⟩
    · by_cases n2 : yo = 4
      · subst n2
        by_cases n2 : xo = 1
        · subst n2
          by_cases n2 : xa = 0
          · subst n2
            have HE : Hid (pairB (1, 0, xb) (4, ya, yb) = true) := by
              show _ = _
              unfold pairB
              simp [*]
            clear n0
            clear n1
            go_enter Try.func65, Try.ntmps65
            go_wp2
            go_ret
            exact ⟨retB HE.out.symm, by go_grown⟩
          · have HE : Hid (pairB (1, xa, xb) (4, ya, yb) = false) := by
              show _ = _
              unfold pairB
              simp [*]
            have b2 : (xa == 0) = false := by simp [n2]
            clear n0
            clear n1
            clear n2
            go_enter Try.func65, Try.ntmps65
            go_wp2
            go_ret
            exact ⟨retB HE.out.symm, by go_grown⟩
        · have HE : Hid (pairB (xo, xa, xb) (4, ya, yb) = false) := by
            show _ = _
            unfold pairB
            simp [*]
          have b2 : (xo == 1) = false := by simp [n2]
          clear n0
          clear n1
          clear n2
          go_enter Try.func65, Try.ntmps65
          go_wp2
          go_ret
          exact ⟨retB HE.out.symm, by go_grown⟩
      · by_cases n3 : yo = 5
        · subst n3
          by_cases n3 : xo = 1
          · subst n3
            by_cases n3 : xa = 0
            · subst n3
              have HE : Hid (pairB (1, 0, xb) (5, ya, yb) = true) := by
                show _ = _
                unfold pairB
                simp [*]
              clear n0
              clear n1
              clear n2
              go_enter Try.func65, Try.ntmps65
              go_wp2
              go_ret
              exact ⟨retB HE.out.symm, by go_grown⟩
            · have HE : Hid (pairB (1, xa, xb) (5, ya, yb) = false) := by
                show _ = _
                unfold pairB
                simp [*]
              have b3 : (xa == 0) = false := by simp [n3]
              clear n0
              clear n1
              clear n2
              clear n3
              go_enter Try.func65, Try.ntmps65
              go_wp2
              go_ret
              exact ⟨retB HE.out.symm, by go_grown⟩
          · have HE : Hid (pairB (xo, xa, xb) (5, ya, yb) = false) := by
              show _ = _
              unfold pairB
              simp [*]
            have b3 : (xo == 1) = false := by simp [n3]
            clear n0
            clear n1
            clear n2
            clear n3
            go_enter Try.func65, Try.ntmps65
            go_wp2
            go_ret
            exact ⟨retB HE.out.symm, by go_grown⟩
        · by_cases n4 : yo = 6
          · subst n4
            by_cases n4 : xo = 1
            · subst n4
              by_cases n4 : xa = 1
              · subst n4
                have HE : Hid (pairB (1, 1, xb) (6, ya, yb) = true) := by
                  show _ = _
                  unfold pairB
                  simp [*]
                clear n0
                clear n1
                clear n2
                clear n3
                go_enter Try.func65, Try.ntmps65
                go_wp2
                go_ret
                exact ⟨retB HE.out.symm, by go_grown⟩
              · have HE : Hid (pairB (1, xa, xb) (6, ya, yb) = false) := by
                  show _ = _
                  unfold pairB
                  simp [*]
                have b4 : (xa == 1) = false := by simp [n4]
                clear n0
                clear n1
                clear n2
                clear n3
                clear n4
                go_enter Try.func65, Try.ntmps65
                go_wp2
                go_ret
                exact ⟨retB HE.out.symm, by go_grown⟩
            · have HE : Hid (pairB (xo, xa, xb) (6, ya, yb) = false) := by
                show _ = _
                unfold pairB
                simp [*]
              have b4 : (xo == 1) = false := by simp [n4]
              clear n0
              clear n1
              clear n2
              clear n3
              clear n4
              go_enter Try.func65, Try.ntmps65
              go_wp2
              go_ret
              exact ⟨retB HE.out.symm, by go_grown⟩
          · by_cases n5 : yo = 7
            · subst n5
              by_cases n5 : xo = 1
              · subst n5
                by_cases n5 : xa = 1
                · subst n5
                  have HE : Hid (pairB (1, 1, xb) (7, ya, yb) = true) := by
                    show _ = _
                    unfold pairB
                    simp [*]
                  clear n0
                  clear n1
                  clear n2
                  clear n3
                  clear n4
                  go_enter Try.func65, Try.ntmps65
                  go_wp2
                  go_ret
                  exact ⟨retB HE.out.symm, by go_grown⟩
                · have HE : Hid (pairB (1, xa, xb) (7, ya, yb) = false) := by
                    show _ = _
                    unfold pairB
                    simp [*]
                  have b5 : (xa == 1) = false := by simp [n5]
                  clear n0
                  clear n1
                  clear n2
                  clear n3
                  clear n4
                  clear n5
                  go_enter Try.func65, Try.ntmps65
                  go_wp2
                  go_ret
                  exact ⟨retB HE.out.symm, by go_grown⟩
              · have HE : Hid (pairB (xo, xa, xb) (7, ya, yb) = false) := by
                  show _ = _
                  unfold pairB
                  simp [*]
                have b5 : (xo == 1) = false := by simp [n5]
                clear n0
                clear n1
                clear n2
                clear n3
                clear n4
                clear n5
                go_enter Try.func65, Try.ntmps65
                go_wp2
                go_ret
                exact ⟨retB HE.out.symm, by go_grown⟩
            · by_cases n6 : yo = 12
              · subst n6
                by_cases n6 : xo = 1
                · subst n6
                  have HE : Hid (pairB (1, xa, xb) (12, ya, yb) = true) := by
                    show _ = _
                    unfold pairB
                    simp [*]
                  clear n0
                  clear n1
                  clear n2
                  clear n3
                  clear n4
                  clear n5
                  go_enter Try.func65, Try.ntmps65
                  go_wp2
                  go_ret
                  exact ⟨retB HE.out.symm, by go_grown⟩
                · have HE : Hid (pairB (xo, xa, xb) (12, ya, yb) = false) := by
                    show _ = _
                    unfold pairB
                    simp [*]
                  have b6 : (xo == 1) = false := by simp [n6]
                  clear n0
                  clear n1
                  clear n2
                  clear n3
                  clear n4
                  clear n5
                  clear n6
                  go_enter Try.func65, Try.ntmps65
                  go_wp2
                  go_ret
                  exact ⟨retB HE.out.symm, by go_grown⟩
              · have HE : Hid (pairB (xo, xa, xb) (yo, ya, yb) = false) := by
                  show _ = _
                  unfold pairB
                  simp [*]
                have b0 : (yo == 9) = false := by simp [n0]
                have b1 : (yo == 10) = false := by simp [n1]
                have b2 : (yo == 4) = false := by simp [n2]
                have b3 : (yo == 5) = false := by simp [n3]
                have b4 : (yo == 6) = false := by simp [n4]
                have b5 : (yo == 7) = false := by simp [n5]
                have b6 : (yo == 12) = false := by simp [n6]
                clear n0
                clear n1
                clear n2
                clear n3
                clear n4
                clear n5
                clear n6
                go_enter Try.func65, Try.ntmps65
                go_wp2
                go_ret
                exact ⟨retB HE.out.symm, by go_grown⟩
end Pg
end Go.Proofs.Ythabenjodhjgiaa

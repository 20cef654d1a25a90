/- Contracts of the program's fitting and joining of kinds. -/
import Derived.Test.YtfdlljdljefkfaaGreatDoorJKi2
import Derived.Lib.QuietBelow
import Derived.BigQuiet
import Derived.Test.YtfdlljdljefkfaaGreatDoorJKi1
import Derived.Test.YtfdlljdljefkfaaGreatDoorJRd2
namespace Go.Proofs.YtfdlljdljefkfaaGreatDoor
namespace Pg
open Go.ChangeShapes Go.WideShapes Go.ChangeAt Go.RowKit St
attribute [local go_sem] as_int_null as_int_none as_int_class as_null_null as_null_none as_null_class as_none_null as_none_none as_none_class as_class_null as_class_none as_class_class

theorem shape_regrown (t : Int) (wr : World) (d : Nat) (os : Array Obj) : Calls Tryz.prog 77 #[.int .i64 t] (Sort.grow (redrawn wr d) os) fun e w'' => e = .returned (shV t) ∧ ∃ p : Regrown, w'' = Sort.grow (redrawn wr p.d) p.os :=
  (shapeOf_at t _).mono fun _ _ ⟨he, hw⟩ => ⟨he, ⟨d, os⟩, hw.symm⟩
set_option maxRecDepth 100000 in
set_option maxHeartbeats 1000000 in
theorem fitsKind_at (B : Nat) (p : Prg) (a : Option Addr) (cap : Nat) (x y : Int) (hx0 : -3 ≤ x) (hx1 : x < (p.length : Int)) (hy0 : -3 ≤ y) (h6 : p.length ≤ 6) (hsup : SupOk p p.length) (w : World) (hp : SK front B w (.slice a p.length cap) p) :
    Calls Tryz.prog 95 #[.agg #[.slice a p.length cap], .int .i64 x, .int .i64 y] w fun e w' => e = .returned (.bool (fitB p x y)) ∧ Below w.heap.size w w' := by
  have HP : Hid (SK front B w (.slice a p.length cap) p) := hp
  have HSU : Hid (SupOk p p.length) := hsup
  clear hp hsup
  obtain ⟨W, hW⟩ : ∃ W, W = w.alloc (.cells #[.slice a p.length cap] 37) := ⟨_, rfl⟩
  have hwW : Below w.heap.size w W := by rw [hW]; exact (Below.refl _ _).alloc (Nat.le_refl _) _
  have P0 : Hid (Cells W w.heap.size [.slice a p.length cap]) := by rw [hW]; exact Cells.new w _ rfl _ _
  obtain ⟨q0, _⟩ := P0.out.g0
  have e0 := cell_regrown q0
  have s1 : ∀ d os, Calls Tryz.prog 77 #[.int .i64 x] (Sort.grow (redrawn W d) os) fun e w'' => e = .returned (shV x) ∧ ∃ p : Regrown, w'' = Sort.grow (redrawn W p.d) p.os := fun d os => shape_regrown x W d os
  have s2 : ∀ d os, Calls Tryz.prog 77 #[.int .i64 y] (Sort.grow (redrawn W d) os) fun e w'' => e = .returned (shV y) ∧ ∃ p : Regrown, w'' = Sort.grow (redrawn W p.d) p.os := fun d os => shape_regrown y W d os
  have s3 : ∀ d os, Calls Tryz.prog 104 #[.agg #[.slice a p.length cap], shV x, shV y] (Sort.grow (redrawn W d) os) fun e w'' => e = .returned (.bool (fitB p x y)) ∧ ∃ p : Regrown, w'' = Sort.grow (redrawn W p.d) p.os := fun d os => Calls.regrown_of (fitsShape_at B p a cap x y hx0 hx1 hy0 h6 HSU.out _ (SK.on HP.out (Keep.of (below_over hwW (below_regrown W d os)))))
  generalize shV x = vx at *
  generalize shV y = vy at *
  go_enter Tryz.func95, Tryz.ntmps95
  go_wp2_with fail
  rw [← hW]
  clear hW
  refine wp_region_quiet_below (by kernel_rfl) (by kernel_rfl) ?_
  repeat (go_big_quiet_step (fail))
  go_big_quiet_step ((go_at_call 77; exact s1 _ _))
  repeat (go_big_quiet_step (fail))
  go_big_quiet_step ((go_at_call 77; exact s2 _ _))
  repeat (go_big_quiet_step (fail))
  go_big_quiet_step ((go_at_call 104; exact s3 _ _))
  repeat (go_big_quiet_step (fail))
  refine wpQuiet_nil ?_
  intro _ hw'
  obtain ⟨⟨dq, osq⟩, hw''⟩ := hw'
  subst hw''
  have hF : Below w.heap.size w (Sort.grow (redrawn W dq) osq) := below_over hwW (below_regrown W dq osq)
  clear s1 s2 s3 e0 q0
  generalize Sort.grow (redrawn W dq) osq = w3 at *
  go_wp2
  go_ret
  exact ⟨rfl, hF⟩
set_option maxRecDepth 100000 in
set_option maxHeartbeats 1000000 in
theorem areKinds_at (n : Nat) (hn : n ≤ 1048576) (a : Option Addr) (cap : Nat) (g c : Nat) (l : List Int) (hl : l.length ≤ 1048576) (w : World) (hr : IRow w g 0 l) :
    Calls Tryz.prog 62 #[.agg #[.slice a n cap], .slice (some ⟨g, 0, none⟩) l.length c] w fun e w' => e = .returned (.bool (l.all (kindB n))) ∧ Below w.heap.size w w' := by
  have HR : Hid (IRow w g 0 l) := hr
  clear hr
  obtain ⟨W, hW⟩ : ∃ W, W = w.alloc (.cells #[.slice a n cap] 37) := ⟨_, rfl⟩
  have hwW : Below w.heap.size w W := by rw [hW]; exact (Below.refl _ _).alloc (Nat.le_refl _) _
  have P0 : Hid (Cells W w.heap.size [.slice a n cap]) := by rw [hW]; exact Cells.new w _ rfl _ _
  go_enter Tryz.func62, Tryz.ntmps62
  go_wp2
  rw [← hW]
  clear hW
  go_loopw [11] (fun i wr => ∃ k : Nat, k ≤ l.length ∧ i = .int .i64 k ∧ Hid ((l.take k).all (kindB n) = true) ∧ Below W.heap.size W wr) (fun i _ => l.length - (intOf i).toNat)
  case atStart => exact ⟨0, Nat.zero_le _, rfl, rfl, Below.refl _ _⟩
  case round =>
    obtain ⟨k, hk, rfl, hall, hb⟩ := hrel
    have hwr : Below w.heap.size w wr := below_over hwW hb
    by_cases hlt : k < l.length
    · have a0 := HR.out.on hwr k _ (List.getElem?_eq_getElem hlt)
      have HT : Hid (l.take (k + 1) = l.take k ++ [l[k]]) := by show _ = _; rw [List.take_succ_eq_append_getElem hlt]
      have HM : Hid (l[k] ∈ l) := List.getElem_mem hlt
      generalize l[k] = x at *
      simp only [Nat.zero_add] at a0
      have hki : (k : Int) < (l.length : Int) := by omega
      have HNO : Hid (kindB n x = false → l.all (kindB n) = false) := by
        show _ → _
        intro h
        cases h2 : l.all (kindB n)
        · rfl
        · rw [List.all_eq_true.1 h2 x HM.out] at h; cases h
      have HYE : Hid (kindB n x = true → (l.take (k + 1)).all (kindB n) = true) := by
        show _ → _
        intro h
        rw [HT.out, List.all_append, hall.out]
        simp [h]
      clear hall HT HM
      obtain ⟨q0, _⟩ := (P0.out.on hb).g0
      have hxc : x = -1 ∨ x = -2 ∨ x = -3 ∨ (¬ x = -1 ∧ ¬ x = -2 ∧ ¬ x = -3) := by omega
      rcases hxc with rfl | rfl | rfl | ⟨h1, h2, h3⟩
      · have HY : Hid ((l.take (k + 1)).all (kindB n) = true) := HYE.out (by simp [kindB]; omega)
        have hbC : Below W.heap.size W (wr.alloc (.cells #[.int .i64 0] 135)) := hb.alloc hb.size _
        go_wp2_with fail
        refine (shapeOf_at (-1) _).mono ?_
        rw [shV_int]
        rintro e w1 ⟨rfl, rfl⟩
        go_wp2
        go_roundw
        case rel => exact ⟨k + 1, by omega, by go_num, HY.out, hbC⟩
        case measure => simp [intOf]; omega
      · have HY : Hid ((l.take (k + 1)).all (kindB n) = true) := HYE.out (by simp [kindB]; omega)
        have hbC : Below W.heap.size W (wr.alloc (.cells #[.int .i64 0] 135)) := hb.alloc hb.size _
        go_wp2_with fail
        refine (shapeOf_at (-2) _).mono ?_
        rw [shV_null]
        rintro e w1 ⟨rfl, rfl⟩
        go_wp2
        go_roundw
        case rel => exact ⟨k + 1, by omega, by go_num, HY.out, hbC⟩
        case measure => simp [intOf]; omega
      · have HY : Hid ((l.take (k + 1)).all (kindB n) = true) := HYE.out (by simp [kindB]; omega)
        have hbC : Below W.heap.size W (wr.alloc (.cells #[.int .i64 0] 135)) := hb.alloc hb.size _
        go_wp2_with fail
        refine (shapeOf_at (-3) _).mono ?_
        rw [shV_none]
        rintro e w1 ⟨rfl, rfl⟩
        go_wp2
        go_roundw
        case rel => exact ⟨k + 1, by omega, by go_num, HY.out, hbC⟩
        case measure => simp [intOf]; omega
      · have HS : Hid (shV x = .iface 135 (.agg #[.int .i64 x])) := by show _ = _; simp [shV, h1, h2, h3]
        have HKB : Hid (kindB n x = (decide (0 ≤ x) && decide (x < (n : Int)))) := by
          show _ = _
          by_cases h0 : 0 ≤ x
          · have : -3 ≤ x := by omega
            simp [kindB, h0, this]
          · have : ¬ -3 ≤ x := by omega
            simp [kindB, h0, this]
        have hbC : Below W.heap.size W (wr.alloc (.cells #[.int .i64 x] 135)) := hb.alloc hb.size _
        obtain ⟨q1, _⟩ := (P0.out.on hbC).g0
        go_wp2_with fail
        refine (shapeOf_at x _).mono ?_
        rw [HS.out]
        rintro e w1 ⟨rfl, rfl⟩
        go_wp2_with fail
        refine (hasClass a n cap x _).mono ?_
        rw [← HKB.out]
        rintro e w2 ⟨rfl, hb2⟩
        have hb3 : Below W.heap.size W w2 := below_over hbC hb2
        cases hkb : kindB n x
        · have HN : Hid (l.all (kindB n) = false) := HNO.out hkb
          go_wp2
          go_ret
          exact ⟨by rw [HN.out]; rfl, below_over hwW hb3⟩
        · have HY : Hid ((l.take (k + 1)).all (kindB n) = true) := HYE.out hkb
          go_wp2
          go_roundw
          case rel => exact ⟨k + 1, by omega, by go_num, HY.out, hb3⟩
          case measure => simp [intOf]; omega
    · have HN : Hid (l.all (kindB n) = true) := by
        show _ = _
        have := hall.out
        rw [List.take_of_length_le (by omega)] at this
        exact this
      go_wp2
      go_ret
      exact ⟨by rw [HN.out]; rfl, hwr⟩
end Pg
end Go.Proofs.YtfdlljdljefkfaaGreatDoor

/- The library's iterator from the end on; the desk takes what fits. -/
namespace Go.Proofs.YtfdlljdljefkfaaGreatDoor
namespace Pg
open Go.ChangeShapes Go.WideShapes Go.ChangeAt Go.RowKit Go.Shelf St
attribute [local go_sem] Oper.semAt_some

set_option maxHeartbeats 400000 in
theorem backward_in (n : Nat) (a : Option Addr) (len cap : Nat) (w : World) :
    CallsIn Fence.wide n Tryz.prog 94 #[.slice a len cap] w fun e w' => e = .returned (.func (.func 103) #[] #[.pointer (some ⟨w.heap.size, 0, none⟩)]) ∧ w' = w.alloc (.cells #[.slice a len cap] 27) := by
  refine callsIn_of_wp Tryz.func94 rfl trivial ?_ rfl
  simp only [Tryz.ntmps94, List.size_toArray, List.length_cons, List.length_nil, Nat.reduceAdd, Nat.reduceSub, Array.replicate_succ, Array.replicate_zero, List.push_toArray, List.append_toArray, List.nil_append, List.cons_append]
  gi_wp2
  go_ret
  exact ⟨rfl, rfl⟩

set_option maxRecDepth 100000 in
set_option maxHeartbeats 1000000 in
theorem back1_in {α : Type} (n : Nat) (hn : 1 ≤ n) (l bw z cz n₀ : Nat) (ls : List Int) (N : Nat) (hN : ls.length ≤ N) (h16 : ls.length ≤ 1000) (e1 e2 : α → Int) (mk : ∀ j : Nat, j < ls.length → α) (hen1 : ∀ j hj, e1 (mk j hj) = (j : Int)) (hen2 : ∀ j hj, e2 (mk j hj) = ls[j]) (J Jx : List α → World → Prop)
    (hY : ∀ pre x W, J pre W → pre.length < N → YieldAt Fence.wide (n - 1) Tryz.prog l #[.int .i64 (e1 x), .int .i64 (e2 x)] W fun e W' =>
      (e = .returned (.bool true) ∧ J (pre ++ [x]) W' ∧ Kp n₀ [bw, z] W W') ∨ (e = .returned (.bool false) ∧ Jx (pre ++ [x]) W'))
    (W : World) (hbw : Boxed W bw 27 (.slice (some ⟨z, 0, none⟩) ls.length cz)) (hz : IRow W z 0 ls) (hzl : z < W.heap.size) (h0 : J [] W) :
    CallsIn Fence.wide n Tryz.prog 103 #[.func (.yield l) #[] #[], .pointer (some ⟨bw, 0, none⟩)] W fun e W' => (∃ v, e = .returned v) ∧
      ((∃ ys, ys.map e2 = ls.reverse ∧ J ys W') ∨ (∃ pre, True ∧ Jx pre W')) := by
  have p0 := hbw.cell
  have hlen : wrap64 ((ls.length : Int) - 1) = (ls.length : Int) - 1 := by unfold wrap64; omega
  refine callsIn_of_wp Tryz.func103 rfl trivial ?_ rfl
  simp only [Tryz.ntmps103, List.size_toArray, List.length_cons, List.length_nil, Nat.reduceAdd, Nat.reduceSub, Array.replicate_succ, Array.replicate_zero, List.push_toArray, List.append_toArray, List.nil_append, List.cons_append]
  gi_wp2
  gi_loopw [3] (fun v wr => ∃ (pre : List α) (m : Nat), v = .int .i64 ((m : Int) - 1) ∧ m ≤ ls.length ∧ Hid (pre.map e2 = (ls.drop m).reverse) ∧ J pre wr ∧ Boxed wr bw 27 (.slice (some ⟨z, 0, none⟩) ls.length cz) ∧ Hid (IRow wr z 0 ls ∧ z < wr.heap.size)) (fun v _ => (intOf v + 1).toNat)
  case atStart => exact ⟨[], ls.length, by first | rfl | rw [hlen], Nat.le_refl _, by show _ = _; simp, h0, hbw, hz, hzl⟩
  case round =>
    clear p0 hbw hz hzl h0 hlen
    obtain ⟨pre, m, rfl, hm, hx, hJ, hbx, hrow⟩ := hrel
    cases m with
    | zero =>
      have HE : Hid (pre.map e2 = ls.reverse) := by show _ = _; rw [hx.out]; rfl
      clear hx
      gi_wp2
      go_end0
      exact ⟨⟨_, rfl⟩, .inl ⟨pre, HE.out, hJ⟩⟩
    | succ m =>
      have hml : m < ls.length := by omega
      have em : ((m + 1 : Nat) : Int) - 1 = (m : Int) := by omega
      rw [em]
      have HX : Hid ((pre ++ [mk m hml]).map e2 = (ls.drop m).reverse) := by
        show _ = _
        rw [List.drop_eq_getElem_cons hml, List.reverse_cons, List.map_append, hx.out, List.map_cons, hen2]; rfl
      have hpl : pre.length < N := by
        have := congrArg List.length hx.out
        simp at this
        omega
      have cx := hrow.out.1 m _ (List.getElem?_eq_getElem hml)
      rw [Nat.zero_add] at cx
      obtain ⟨fn, tmps, assign, body, hy, hR⟩ := hY pre (mk m hml) wr hJ hpl
      rw [hen1, hen2] at hy
      generalize mk m hml = xm at *
      generalize ls[m] = x at *
      have p0 := hbx.cell
      have hmi : (m : Int) < (ls.length : Int) := by omega
      have hge : decide ((m : Int) ≥ 0) = true := by simp
      have hwr : wrap64 ((m : Int) - 1) = (m : Int) - 1 := by unfold wrap64; omega
      clear hx hm em hpl
      gi_wp2
      refine hR.mono ?_
      rintro e W3 (⟨rfl, hJ3, hk3⟩ | ⟨rfl, hJx3⟩)
      · have hbx3 := hk3.boxed (by simp) hbx
        have hrow3 : Hid (IRow W3 z 0 ls ∧ z < W3.heap.size) := ⟨irow_blk hrow.out.1 (hk3.2 z (by simp) hrow.out.2), Nat.lt_of_lt_of_le hrow.out.2 hk3.1.size⟩
        gi_wp2
        go_roundw
        case rel => exact ⟨pre ++ [xm], m, by first | rfl | rw [hwr], by omega, HX, hJ3, hbx3, hrow3⟩
        case measure => simp [intOf]
      · gi_wp2
        refine bodyPost_ret (results_none rfl _ _ _) rfl ?_
        exact ⟨⟨_, rfl⟩, .inr ⟨_, trivial, hJx3⟩⟩

/-- A number and where it stands, none below all kinds. -/
abbrev Wnt := Int × { x : Int // -3 ≤ x }
/-- What the iterator from the end on hands out. -/
theorem back_stops (n : Nat) (hn : 1 ≤ n) (bw z cz n₀ : Nat) (ls : List Int) (h16 : ls.length ≤ 1000) (hls : ∀ x ∈ ls, -3 ≤ x) (w : World) (hbw : Boxed w bw 27 (.slice (some ⟨z, 0, none⟩) ls.length cz)) (hz : IRow w z 0 ls) (hzl : z < w.heap.size) :
    SeqStopsK Fence.wide n Tryz.prog 103 #[.pointer (some ⟨bw, 0, none⟩)] (fun x : Wnt => #[Value.int .i64 x.1, Value.int .i64 x.2.1]) (Kp n₀ [bw, z]) (fun ys => ys.map (·.2.1) = ls.reverse) (fun _ => True) ls.length w := fun l J Jx W hW _ _ hY h0 =>
  back1_in n hn l bw z cz n₀ ls ls.length (Nat.le_refl _) h16 (fun x : Wnt => x.1) (fun x : Wnt => x.2.1) (fun j hj => ((j : Int), ⟨ls[j], hls _ (List.getElem_mem hj)⟩)) (fun _ _ => rfl) (fun _ _ => rfl) J Jx hY W ((hW.block bw hbw.lt).trans hbw) (irow_blk hz (hW.block z hzl)) (Nat.lt_of_lt_of_le hzl hW.size) h0

theorem foldl_snoc {p : Prg} (d : Dsk) (pre : List Wnt) (x : Wnt) : ((pre ++ [x]).map (·.2.1)).foldl (Dsk.fit1 p) d = Dsk.fit1 p ((pre.map (·.2.1)).foldl (Dsk.fit1 p) d) x.2.1 := by
  rw [List.map_append, List.foldl_append]; rfl
theorem ok_fold {p : Prg} {d : Dsk} (h : d.ok p) : ∀ (l : List Int), (l.foldl (Dsk.fit1 p) d).ok p := by
  intro l
  induction l generalizing d with
  | nil => exact h
  | cons x l ih => exact ih (Dsk.ok_fit1 h x)
end Pg
end Go.Proofs.YtfdlljdljefkfaaGreatDoor

/- The contract of the desk's taking what fits. -/
namespace Go.Proofs.YtfdlljdljefkfaaGreatDoor
namespace Pg
open Go.ChangeShapes Go.WideShapes Go.ChangeAt Go.RowKit Go.Shelf St
attribute [local go_sem] Oper.semAt_some

set_option maxRecDepth 100000 in
set_option maxHeartbeats 4000000 in
theorem fits_at (B : Nat) (p : Prg) (hp0 : 0 < p.length) (h6 : p.length ≤ 6) (hsup : SupOk p p.length) (u W0 : World) (fs : List Nat) (w : World) (k : Nat) (pa : Option Addr) (pc : Nat) (hp : SK front B u (.slice pa p.length pc) p) (d : Dsk) (hok : d.ok p) (h : DeskAt u W0 fs w k (.slice pa p.length pc) d) (z cz : Nat) (ls : List Int) (h16 : ls.length ≤ 1000) (hls : ∀ x ∈ ls, -3 ≤ x) (hz : IRow w z 0 ls) (hzl : z < w.heap.size) (hzf : z ∈ fs) :
    Calls Tryz.prog 82 #[.pointer (some ⟨k, 0, none⟩), .slice (some ⟨z, 0, none⟩) ls.length cz] w fun e w' => (∃ v, e = .returned v) ∧ DeskAt u W0 fs w' k (.slice pa p.length pc) (d.fits p ls) := by
  have HP : Hid (SK front B u (.slice pa p.length pc) p) := hp
  have HSU : Hid (SupOk p p.length) := hsup
  have HH : Hid (DeskAt u W0 fs w k (.slice pa p.length pc) d) := h
  obtain ⟨W, hW⟩ : ∃ W, W = w.alloc (.cells #[.pointer (some ⟨k, 0, none⟩)] 140) := ⟨_, rfl⟩
  have hwW : Below w.heap.size w W := by rw [hW]; exact (Below.refl _ _).alloc (Nat.le_refl _) _
  have h1 : DeskAt u W (w.heap.size :: fs) W k (.slice pa p.length pc) d := by rw [hW]; exact h.fresh _
  have B0 : Boxed W w.heap.size 140 (.pointer (some ⟨k, 0, none⟩)) := by rw [hW]; exact Boxed.new w _ _
  have hZ : W.heap.size = w.heap.size + 1 := by rw [hW]; simp
  obtain ⟨V, hV⟩ : ∃ V, V = W.alloc (.cells #[.slice (some ⟨z, 0, none⟩) ls.length cz] 27) := ⟨_, rfl⟩
  have hwV : Below w.heap.size w V := by rw [hV]; exact hwW.alloc hwW.size _
  have h2 : DeskAt u V ((w.heap.size + 1) :: w.heap.size :: fs) V k (.slice pa p.length pc) d := by rw [hV, ← hZ]; exact h1.fresh _
  have BV0 : Boxed V w.heap.size 140 (.pointer (some ⟨k, 0, none⟩)) := by rw [hV]; exact B0.alloc _
  have BV1 : Boxed V (w.heap.size + 1) 27 (.slice (some ⟨z, 0, none⟩) ls.length cz) := by rw [hV, ← hZ]; exact Boxed.new W _ _
  have hZV : V.heap.size = w.heap.size + 1 + 1 := by rw [hV]; simp [hZ]
  have huw : u.heap.size ≤ w.heap.size := h.below.size
  have hzV : IRow V z 0 ls := irow_blk hz (hwV.block z hzl)
  have C0 : Hid (Cells V w.heap.size [.pointer (some ⟨k, 0, none⟩)]) := by
    show Cells _ _ _
    intro i x hx
    cases i with
    | zero => simp at hx; subst hx; exact ⟨BV0.cell, BV0.frozen⟩
    | succ i => simp at hx
  have hVV : Hid ((w.alloc (.cells #[.pointer (some ⟨k, 0, none⟩)] 140)).alloc (.cells #[.slice (some ⟨z, 0, none⟩) ls.length cz] 27) = V) := by show _ = _; rw [hV, hW]
  clear hV hW h h1 B0 hz hp hsup hwW
  refine (callsIn_wide (n := 4)).1 ?_
  refine callsIn_of_wp_marks Tryz.func82 rfl trivial ?_ rfl
  simp only [Tryz.ntmps82, List.size_toArray, List.length_cons, List.length_nil, Nat.reduceAdd, Nat.reduceSub, Array.replicate_succ, Array.replicate_zero, List.push_toArray, List.append_toArray, List.nil_append, List.cons_append]
  gi_wp2_with (refine ⟨trivial, ?_⟩; gi_at_call 94; refine (backward_in _ _ ls.length cz _).mono ?_; rintro e w' ⟨rfl, rfl⟩)
  rw [hVV.out]
  clear hVV
  refine wpIn_rangeFunc_ownF rfl (show 1 ≤ 4 by omega) (gf := 103) (lb := #[.pointer (some ⟨w.heap.size + 1, 0, none⟩)]) rfl trivial (enters_of Tryz.func103 (by kernel_rfl) rfl)
    (back_stops _ (by omega) (w.heap.size + 1) z cz u.heap.size ls h16 hls V BV1 hzV (by omega)) kp_t (kp_b (by omega) (by simp; omega)) (Below.refl _ _) (fun _ => rfl)
    (fun (pre : List Wnt) X => DeskAt u V ((w.heap.size + 1) :: w.heap.size :: fs) X k (.slice pa p.length pc) ((pre.map (fun x : Wnt => x.2.1)).foldl (Dsk.fit1 p) d))
    (fun _ _ _ => False)
    (fun s X Y row hs hg hr => hs.walk (Nat.le_refl _) (by omega) hg hr)
    (fun _ _ _ _ _ hs _ _ => hs)
    h2
    (fun x => { tmps := #[.pointer (some ⟨k, 0, none⟩), .slice (some ⟨z, 0, none⟩) ls.length cz, .pointer (some ⟨w.heap.size, 0, none⟩), undef, undef, .int .i64 x.2.1, .slice (some ⟨z, 0, none⟩) ls.length cz, .func (.func 103) #[] #[.pointer (some ⟨w.heap.size + 1, 0, none⟩)], .int .i64 x.1, .int .i64 x.2.1, undef, undef, undef, undef, undef, undef, undef, undef, undef, undef, undef], defers := [] }) ?assign ?body ?done ?stop
  case assign =>
    intro l x X K hK
    gi_wp2
    exact hK
  case body =>
    rintro l pre ⟨i, x, hx⟩ X hX _
    have HOK : Hid (Dsk.ok p ((pre.map (fun x : Wnt => x.2.1)).foldl (Dsk.fit1 p) d)) := ok_fold hok _
    have HSN : Hid (((pre ++ [((i, ⟨x, hx⟩) : Wnt)]).map (fun x : Wnt => x.2.1)).foldl (Dsk.fit1 p) d = Dsk.fit1 p ((pre.map (fun x : Wnt => x.2.1)).foldl (Dsk.fit1 p) d) x) := foldl_snoc d pre (i, ⟨x, hx⟩)
    dsimp only at HSN ⊢
    generalize (pre.map (fun x : Wnt => x.2.1)).foldl (Dsk.fit1 p) d = d1 at *
    have HX : Hid (DeskAt u V ((w.heap.size + 1) :: w.heap.size :: fs) X k (.slice pa p.length pc) d1) := hX
    have HXN : Hid (DeskAt u X ((w.heap.size + 1) :: w.heap.size :: fs) X k (.slice pa p.length pc) d1) := hX.now
    have CB : Hid (Cells X w.heap.size [.pointer (some ⟨k, 0, none⟩)]) := hX.kept (by simp) C0.out
    have HS : Hid (∀ w' d2, DeskAt u X ((w.heap.size + 1) :: w.heap.size :: fs) w' k (.slice pa p.length pc) d2 → w'.cell? ⟨w.heap.size, 0, none⟩ = some (.pointer (some ⟨k, 0, none⟩)) ∧ w'.cell? ⟨k, 0, none⟩ = some (.slice pa p.length pc)) := by
      show ∀ w' d2, _
      intro w' d2 h'
      refine ⟨((h'.kept (by simp) CB.out).g0).1, ?_⟩
      obtain ⟨_, _, _, _, hr⟩ := h'
      exact (hr.cells.g0).1
    have HD0 : Hid (DeskAt u X ((w.heap.size + 1) :: w.heap.size :: fs) X.drew k (.slice pa p.length pc) d1) := HXN.out.on (Below.refl _ _).drew
    have HEND : Hid (∀ w', DeskAt u X ((w.heap.size + 1) :: w.heap.size :: fs) w' k (.slice pa p.length pc) (Dsk.fit1 p d1 x) → KeepsOthers X w' ∧ Kp u.heap.size [w.heap.size + 1, z] X w' ∧ DeskAt u V ((w.heap.size + 1) :: w.heap.size :: fs) w' k (.slice pa p.length pc) (Dsk.fit1 p d1 x)) := by
      show ∀ w', _
      intro w' h'
      refine ⟨?_, ⟨?_, ?_⟩, HX.out.back (gs := []) (Below.refl _ _) h'⟩
      · obtain ⟨_, _, _, _, hr⟩ := h'; exact hr.oth
      · have b1 := HXN.out.below
        have b2 := h'.below
        exact ⟨b2.os.trans b1.os.symm, b2.tape.trans b1.tape.symm, b2.output.trans b1.output.symm, by obtain ⟨_, _, _, _, hr⟩ := h'; exact hr.oth.size, fun j hj => (b2.block j hj).trans (b1.block j hj).symm⟩
      · intro b hb _
        obtain ⟨_, _, _, _, hr⟩ := h'
        refine (hr.far b ?_).2.1
        simp at hb
        rcases hb with rfl | rfl
        · simp
        · simp [hzf]
    clear hX HX
    gi_wp2_with fail
    refine round_held (S := fun w' => w'.cell? ⟨w.heap.size, 0, none⟩ = some (.pointer (some ⟨k, 0, none⟩)) ∧ w'.cell? ⟨k, 0, none⟩ = some (.slice pa p.length pc)) (by kernel_rfl) (by simp) (fun ⟨_, _, h⟩ => h) (HS.out _ _ HD0.out) (fun hHeld => ?_)
    refine wpAnyH_take (i := 0) (v := ?_) rfl (by kernel_rfl) (by kernel_rfl) (by kernel_rfl) (fun _ _ _ h => h) (Or.inl ⟨by rfl, ?_⟩) hHeld ?_
    rotate_left 1
    · intro w' hSw
      obtain ⟨s0, s1⟩ := hSw
      go_simp
      try with_reducible rfl
    simp only [Act.put]
    refine wpAnyH_take (i := 1) (v := ?_) rfl (by kernel_rfl) (by kernel_rfl) (by kernel_rfl) (fun _ _ _ h => h) (Or.inl ⟨by rfl, ?_⟩) hHeld ?_
    rotate_left 1
    · intro w' hSw
      obtain ⟨s0, s1⟩ := hSw
      go_simp
      try with_reducible rfl
    simp only [Act.put]
    refine wpAnyH_take (i := 2) (v := ?_) rfl (by kernel_rfl) (by kernel_rfl) (by kernel_rfl) (fun _ _ _ h => h) (Or.inl ⟨by rfl, ?_⟩) hHeld ?_
    rotate_left 1
    · intro w' hSw
      obtain ⟨s0, s1⟩ := hSw
      go_simp
      try with_reducible rfl
    simp only [Act.put]
    refine wpAnyH_take (i := 3) (v := ?_) rfl (by kernel_rfl) (by kernel_rfl) (by kernel_rfl) (fun _ _ _ h => h) (Or.inl ⟨by rfl, ?_⟩) hHeld ?_
    rotate_left 1
    · intro w' hSw
      obtain ⟨s0, s1⟩ := hSw
      go_simp
      try with_reducible rfl
    simp only [Act.put]
    refine wpAnyH_take (i := 4) (v := ?_) rfl (by kernel_rfl) (by kernel_rfl) (by kernel_rfl) (fun _ _ _ h => h) (Or.inl ⟨by rfl, ?_⟩) hHeld ?_
    rotate_left 1
    · intro w' hSw
      obtain ⟨s0, s1⟩ := hSw
      go_simp
      try with_reducible rfl
    simp only [Act.put]
    refine wpAnyH_take (i := 6) (v := ?_) rfl (by kernel_rfl) (by kernel_rfl) (by kernel_rfl) (fun _ _ _ h => h) (Or.inl ⟨by rfl, ?_⟩) hHeld ?_
    rotate_left 1
    · intro w' hSw
      obtain ⟨s0, s1⟩ := hSw
      go_simp
      try with_reducible rfl
    simp only [Act.put]
    refine wpAnyH_ready (rs := [5]) (by kernel_rfl) (by simp) ?_
    refine AllReadyH.cons rfl (fun K hK => ?_) AllReadyH.nil
    go_simp
    refine (take_at u X ((w.heap.size + 1) :: w.heap.size :: fs) _ k _ d1 HD0.out HOK.out.2.2).mono ?_
    rintro e w1 ⟨rfl, hd⟩
    have HD1 : Hid (DeskAt u X ((w.heap.size + 1) :: w.heap.size :: fs) w1 k (.slice pa p.length pc) d1.take) := hd
    clear hd
    dsimp only
    refine hK.out _ _ (HS.out _ _ HD1.out) (fun hHeld => ?_)
    clear hK K
    refine wpAnyH_ready (rs := [7]) (by kernel_rfl) (by simp) ?_
    refine AllReadyH.cons rfl (fun K hK => ?_) AllReadyH.nil
    go_simp
    have hkt := kind_bd (Dsk.ok_top hp0 HOK.out)
    refine (fitsKind_at B p pa pc d1.top x hkt.1 hkt.2 hx h6 HSU.out w1 (SK.on HP.out (Keep.of HD1.out.below))).mono ?_
    rintro e w2 ⟨rfl, hb2⟩
    have HD2 : Hid (DeskAt u X ((w.heap.size + 1) :: w.heap.size :: fs) w2 k (.slice pa p.length pc) d1.take) := HD1.out.on hb2
    clear hb2 HD1 HD0 hkt
    dsimp only
    refine hK.out _ _ (HS.out _ _ HD2.out) (fun hHeld => ?_)
    clear hK K
    refine wpAnyH_take (i := 8) (v := ?_) rfl (by kernel_rfl) (by kernel_rfl) (by kernel_rfl) (fun _ _ _ h => h) (Or.inl ⟨by rfl, ?_⟩) hHeld ?_
    rotate_left 1
    · intro w' hSw
      obtain ⟨s0, s1⟩ := hSw
      go_simp
      try with_reducible rfl
    simp only [Act.put]
    refine wpAnyH_done (by kernel_rfl) ?_ _
    have p0 := (HS.out _ _ HD2.out).1
    have HF : Hid (Dsk.fit1 p d1 x = d1.take.when (fitB p d1.top x)) := rfl
    clear hHeld
    cases hfit : fitB p d1.top x
    · rw [hfit] at HF
      gi_wp2_with fail
      refine ⟨trivial, ?_⟩
      refine (CallsIn.inRound l (callsIn_wide.2 (refuse_at u X ((w.heap.size + 1) :: w.heap.size :: fs) w2 k _ d1.take _ HD2.out))).mono ?_
      rintro e w3 ⟨⟨v, rfl⟩, hd⟩
      rw [← (show Dsk.fit1 p d1 x = d1.take.refuse from HF.out)] at hd
      have HE : Hid (KeepsOthers X w3 ∧ Kp u.heap.size [w.heap.size + 1, z] X w3 ∧ DeskAt u V ((w.heap.size + 1) :: w.heap.size :: fs) w3 k (.slice pa p.length pc) (Dsk.fit1 p d1 x)) := HEND.out _ hd
      clear hd HEND HS HD2 HXN CB
      gi_wp2
      refine ⟨HE.out.1, HE.out.2.1, ?_⟩
      dsimp only
      rw [HSN.out]
      exact HE.out.2.2
    · rw [hfit] at HF
      have hd := HD2.out
      rw [← (show Dsk.fit1 p d1 x = d1.take from HF.out)] at hd
      have HE : Hid (KeepsOthers X w2 ∧ Kp u.heap.size [w.heap.size + 1, z] X w2 ∧ DeskAt u V ((w.heap.size + 1) :: w.heap.size :: fs) w2 k (.slice pa p.length pc) (Dsk.fit1 p d1 x)) := HEND.out _ hd
      clear hd HEND HS HD2 HXN CB
      gi_wp2
      refine ⟨HE.out.1, HE.out.2.1, ?_⟩
      dsimp only
      rw [HSN.out]
      exact HE.out.2.2
  case done =>
    rintro D ys X hD hys hX hK
    gi_wp2
    refine ⟨by simp, .inl ⟨_, _, rfl, run_takeDeferred hK, ?_⟩⟩
    refine ⟨_, results_none rfl _ _ _, ⟨_, rfl⟩, ?_⟩
    have hE : (ys.map (fun x : Wnt => x.2.1)).foldl (Dsk.fit1 p) d = d.fits p ls := by unfold Dsk.fits; rw [hys]
    rw [hE] at hX
    exact HH.out.back (gs := [w.heap.size + 1, w.heap.size]) hwV (hX.walk (Nat.le_refl _) (by omega) (grownBy_putObj' X D _) (fun r e => by cases e; exact ⟨hD, _, hK, rfl⟩))
  case stop =>
    rintro D c pre X _ _ h _
    exact h.elim
end Pg
end Go.Proofs.YtfdlljdljefkfaaGreatDoor

/- Contracts of the library's sorting of at most twelve numbers, and of its leaving out of doubles. -/
import Derived.Test.YthjjfjakldbimabSq0
import Derived.Test.YthjjfjakldbimabIRow0
import Derived.Test.YthjjfjakldbimabLo1
import Derived.Lib.SliceRun
import Derived.BigQuiet
import Derived.RegionTactic
namespace Go.Proofs.Ythjjfjakldbimab
namespace Pg
open Go.ChangeShapes Go.WideShapes Go.ChangeAt Go.RowKit St

theorem isNaN (x : Int) (w : World) : Calls Try.prog 96 #[.int .i64 x] w fun e w' => e = .returned (.bool false) ∧ w' = w := by
  have hx : (x != x) = false := by simp
  go_enter Try.func96, Try.ntmps96
  go_wp2
  go_ret
  exact ⟨rfl, rfl⟩
theorem cmpLess (x y : Int) (w : World) : Calls Try.prog 78 #[.int .i64 x, .int .i64 y] w fun e w' => e = .returned (.bool (decide (x < y))) ∧ w' = w := by
  go_enter Try.func78, Try.ntmps78
  go_wp2_with fail
  refine (isNaN x _).mono ?_
  rintro e w1 ⟨rfl, rfl⟩
  by_cases h : x < y
  · go_wp2
    go_ret
    exact ⟨retB (by simp [h]), rfl⟩
  · go_wp2
    go_ret
    exact ⟨retB (by simp), rfl⟩
set_option maxHeartbeats 1000000 in
theorem len64 (n : Nat) (hn : n ≤ 12) (w : World) : Calls Try.prog 82 #[.int .u64 (n : Int)] w fun e w' => (∃ r, e = .returned (.int .i64 r)) ∧ w' = w := by
  have h0 : n = 0 ∨ n = 1 ∨ n = 2 ∨ n = 3 ∨ n = 4 ∨ n = 5 ∨ n = 6 ∨ n = 7 ∨ n = 8 ∨ n = 9 ∨ n = 10 ∨ n = 11 ∨ n = 12 := by omega
  rcases h0 with rfl | rfl | rfl | rfl | rfl | rfl | rfl | rfl | rfl | rfl | rfl | rfl | rfl
  all_goals
    go_enter Try.func82, Try.ntmps82
    go_wp2
    go_ret
    exact ⟨⟨_, rfl⟩, rfl⟩
theorem bitsLen (n : Nat) (hn : n ≤ 12) (w : World) : Calls Try.prog 61 #[.int .u64 (n : Int)] w fun e w' => (∃ r, e = .returned (.int .i64 r)) ∧ w' = w := by
  go_enter Try.func61, Try.ntmps61
  go_wp2_with fail
  refine (len64 n hn _).mono ?_
  rintro e w1 ⟨⟨r, rfl⟩, rfl⟩
  go_wp2
  go_ret
  exact ⟨⟨_, rfl⟩, rfl⟩
theorem grown_on {g : Nat} {u v w : World} (h : u.grownBy v (some g)) (hb : Below v.heap.size v w) : u.grownBy w (some g) :=
  ⟨hb.os.trans h.os, hb.tape.trans h.tape, hb.output.trans h.output, Nat.le_trans h.size hb.size, fun k hk hne => (hb.block k (Nat.lt_of_lt_of_le hk h.size)).trans (h.block k hk hne)⟩
theorem grown_set {g : Nat} {u v : World} (h : u.grownBy v (some g)) (o : Nat) (x : Value) : u.grownBy (v.setCell ⟨g, o, none⟩ x) (some g) := by
  have hb := (Below.refl 0 v).setCell (p := ⟨g, o, none⟩) (Nat.zero_le _) x
  exact ⟨hb.os.trans h.os, hb.tape.trans h.tape, hb.output.trans h.output, Nat.le_trans h.size hb.size, fun k hk hne => (Below.heap_setCell v ⟨g, o, none⟩ x k (fun e => hne (by subst e; rfl))).trans (h.block k hk hne)⟩
theorem grown_refl (g : Nat) (u : World) : u.grownBy u (some g) := ⟨rfl, rfl, rfl, Nat.le_refl _, fun _ _ _ => rfl⟩
theorem room_set {w : World} {g n : Nat} (h : Room w g n) (o : Nat) (x : Int) : Room (w.setCell ⟨g, o, none⟩ (.int .i64 x)) g n := fun i hi => by
  obtain ⟨⟨y, hy⟩, hf⟩ := h i hi
  refine ⟨?_, by rw [World.frozen?_setCell]; exact hf⟩
  by_cases e : o = i
  · subst e
    exact ⟨.int .i64 x, World.cell?_setCell_same' _ _ _ (by rw [hy]; rfl)⟩
  · exact ⟨y, (World.cell?_setCell_other w ⟨g, o, none⟩ ⟨g, i, none⟩ (.int .i64 x) (fun e' => e (by injection e'))).trans hy⟩

set_option maxRecDepth 100000 in
set_option maxHeartbeats 4000000 in
theorem insertionSort (g cap : Nat) (l : List Int) (hl : l.length ≤ 12) (w : World) (hr : IRow w g 0 l) (hm : Room w g l.length) :
    Calls Try.prog 72 #[.slice (some ⟨g, 0, none⟩) l.length cap, .int .i64 0, .int .i64 (l.length : Int)] w fun e w' => (∃ v, e = .returned v) ∧ ∃ s : List Int, s.length = l.length ∧ Srt s s.length ∧ (∀ x, x ∈ s ↔ x ∈ l) ∧ IRow w' g 0 s ∧ Room w' g l.length ∧ w.grownBy w' (some g) := by
  have HR : Hid (IRow w g 0 l) := hr
  have HM : Hid (Room w g l.length) := hm
  clear hr hm
  go_enter Try.func72, Try.ntmps72
  go_wp2
  go_loopw [6] (fun v wr => ∃ (i : Nat) (s : List Int), v = .int .i64 (i : Int) ∧ 1 ≤ i ∧ i ≤ l.length + 1 ∧ Hid (s.length = l.length) ∧ Hid (Srt s i) ∧ Hid (∀ x, x ∈ s ↔ x ∈ l) ∧ Hid (IRow wr g 0 s) ∧ Hid (Room wr g l.length) ∧ Hid (w.grownBy wr (some g))) (fun v _ => l.length + 1 - (intOf v).toNat)
  case atStart => exact ⟨1, l, rfl, Nat.le_refl _, by omega, rfl, fun a b x y h1 h2 => by omega, fun _ => Iff.rfl, HR.out, HM.out, grown_refl _ _⟩
  case round =>
    clear HR HM
    obtain ⟨i, s, rfl, hi1, hi2, hsl, hsrt, hmem, hrow, hroom, hgr⟩ := hrel
    by_cases hlt : i < l.length
    · have hli : (i : Int) < (l.length : Int) := by omega
      go_wp2
      go_loopw [7] (fun v wr' => ∃ (j : Nat) (s : List Int), v = .int .i64 (j : Int) ∧ j ≤ i ∧ Hid (s.length = l.length) ∧ Hid (Hole s i j) ∧ Hid (∀ x, x ∈ s ↔ x ∈ l) ∧ Hid (IRow wr' g 0 s) ∧ Hid (Room wr' g l.length) ∧ Hid (w.grownBy wr' (some g))) (fun v _ => (intOf v).toNat)
      case atStart => exact ⟨i, s, rfl, Nat.le_refl _, hsl.out, hsrt.out.hole, hmem.out, hrow.out, hroom.out, hgr.out⟩
      case round =>
        clear hsl hsrt hmem hrow hroom hgr s
        obtain ⟨j, s, rfl, hj, hsl, hhole, hmem, hrow, hroom, hgr⟩ := hrel
        cases j with
        | zero =>
          have HS : Hid (Srt s (i + 1)) := hhole.out.zero
          have e0 : ((0 : Nat) : Int) = 0 := rfl
          rw [e0]
          clear hhole e0
          go_wp2_with fail
          refine wp_region_quiet_below (by kernel_rfl) (by kernel_rfl) ?_
          repeat (go_big_quiet_step (fail))
          refine wpQuiet_nil ?_
          intro _ hw'
          obtain ⟨⟨dq, osq⟩, hw''⟩ := hw'
          subst hw''
          have hbq := below_regrown wr dq osq
          have HROW : Hid (IRow (Sort.grow (redrawn wr dq) osq) g 0 s) := hrow.out.on hbq
          have HROOM : Hid (Room (Sort.grow (redrawn wr dq) osq) g l.length) := hroom.out.on hbq
          have HGR : Hid (w.grownBy (Sort.grow (redrawn wr dq) osq) (some g)) := grown_on hgr.out hbq
          clear hrow hroom hgr hbq
          generalize Sort.grow (redrawn wr dq) osq = w4 at *
          go_wp2
          go_roundw
          case rel => exact ⟨i + 1, s, by go_num, by omega, by omega, hsl.out, HS.out, hmem.out, HROW.out, HROOM.out, HGR.out⟩
          case measure => simp [intOf]; omega
        | succ k =>
          have hk1 : k + 1 < s.length := by rw [hsl.out]; omega
          have hk0 : k < s.length := by omega
          have c1 := hrow.out (k + 1) _ (List.getElem?_eq_getElem hk1)
          have c0 := hrow.out k _ (List.getElem?_eq_getElem hk0)
          have X0 : Hid (s[k]? = some s[k]) := List.getElem?_eq_getElem hk0
          have X1 : Hid (s[k + 1]? = some s[k + 1]) := List.getElem?_eq_getElem hk1
          generalize s[k] = x at *
          generalize s[k + 1] = y at *
          rw [Nat.zero_add] at c0 c1
          have hcast : ((k + 1 : Nat) : Int) = (k : Int) + 1 := by omega
          rw [hcast]
          have hki0 : (0 : Int) ≤ (k : Int) := by omega
          have hki1 : (0 : Int) ≤ (k : Int) + 1 := by omega
          have hki2 : (k : Int) + 1 < (l.length : Int) := by omega
          have hki3 : (k : Int) < (l.length : Int) := by omega
          have hkp : (0 : Int) < (k : Int) + 1 := by omega
          have htn : ((k : Int) + 1).toNat = k + 1 := by omega
          have hsub : (k : Int) + 1 - 1 = (k : Int) := by omega
          have hws : IntKind.i64.wrap (k : Int) = (k : Int) := by simp [IntKind.wrap, IntKind.signed, IntKind.bits]; omega
          have e0 := cell_regrown c0
          have e1 := cell_regrown c1
          clear hcast hk0 hk1
          have cL : ∀ d os, Calls Try.prog 78 #[.int .i64 y, .int .i64 x] (Sort.grow (redrawn wr d) os) fun e w'' => e = .returned (.bool (decide (y < x))) ∧ ∃ p : Regrown, w'' = Sort.grow (redrawn wr p.d) p.os := by
            intro d os
            refine Calls.regrown_of ((cmpLess y x (Sort.grow (redrawn wr d) os)).mono ?_)
            rintro e w' ⟨rfl, rfl⟩
            exact ⟨rfl, Below.refl _ _⟩
          cases hq : decide (y < x)
          · rw [hq] at cL
            simp only [decide_eq_false_iff_not] at hq
            have HS : Hid (Srt s (i + 1)) := hhole.out.done X0.out X1.out (by omega)
            clear hhole hq X0 X1
            go_wp2_with fail
            refine wp_region_quiet_below (by kernel_rfl) (by kernel_rfl) ?_
            repeat (go_big_quiet_step ((go_at_call 78; exact cL _ _)))
            refine wpQuiet_nil ?_
            intro _ hw'
            obtain ⟨⟨dq, osq⟩, hw''⟩ := hw'
            subst hw''
            have hbq := below_regrown wr dq osq
            have HROW : Hid (IRow (Sort.grow (redrawn wr dq) osq) g 0 s) := hrow.out.on hbq
            have HROOM : Hid (Room (Sort.grow (redrawn wr dq) osq) g l.length) := hroom.out.on hbq
            have HGR : Hid (w.grownBy (Sort.grow (redrawn wr dq) osq) (some g)) := grown_on hgr.out hbq
            clear hrow hroom hgr hbq c0 c1 e0 e1 cL
            generalize Sort.grow (redrawn wr dq) osq = w4 at *
            go_wp2
            go_roundw
            case rel => exact ⟨i + 1, s, by go_num, by omega, by omega, hsl.out, HS.out, hmem.out, HROW.out, HROOM.out, HGR.out⟩
            case measure => simp [intOf]; omega
          · rw [hq] at cL
            simp only [decide_eq_true_eq] at hq
            have HSW : Hid (Hole (swapL s k x y) i k) := hhole.out.swap (by rw [hsl.out]; exact hlt) hj X0.out X1.out hq
            have HMW : Hid (∀ z, z ∈ swapL s k x y ↔ z ∈ l) := fun z => (swapL_mem X0.out X1.out z).trans (hmem.out z)
            clear hhole hq X0 X1
            go_wp2_with fail
            refine wp_region_quiet_below (by kernel_rfl) (by kernel_rfl) ?_
            repeat (go_big_quiet_step ((go_at_call 78; exact cL _ _)))
            refine wpQuiet_nil ?_
            intro _ hw'
            obtain ⟨⟨dq, osq⟩, hw''⟩ := hw'
            subst hw''
            have hbq := below_regrown wr dq osq
            have d0 := e0 dq osq
            have d1 := e1 dq osq
            have HROW : Hid (IRow (Sort.grow (redrawn wr dq) osq) g 0 s) := hrow.out.on hbq
            have HROOM : Hid (Room (Sort.grow (redrawn wr dq) osq) g l.length) := hroom.out.on hbq
            have HGR : Hid (w.grownBy (Sort.grow (redrawn wr dq) osq) (some g)) := grown_on hgr.out hbq
            clear hrow hroom hgr hbq e0 e1 cL
            generalize Sort.grow (redrawn wr dq) osq = w4 at *
            clear c0 c1
            obtain ⟨_, f0⟩ := HROOM.out k (by omega)
            obtain ⟨_, f1⟩ := HROOM.out (k + 1) (by omega)
            go_wp2_with fail
            go_region
            have HR2 : Hid (IRow ((w4.drew.setCell ⟨g, k + 1, none⟩ (.int .i64 x)).setCell ⟨g, k, none⟩ (.int .i64 y)) g 0 (swapL s k x y)) := irow_set y (irow_set x (HROW.out.on (Below.refl _ _).drew))
            have HM2 : Hid (Room ((w4.drew.setCell ⟨g, k + 1, none⟩ (.int .i64 x)).setCell ⟨g, k, none⟩ (.int .i64 y)) g l.length) := room_set (room_set (HROOM.out.on (Below.refl _ _).drew) _ _) _ _
            have HG2 : Hid (w.grownBy ((w4.drew.setCell ⟨g, k + 1, none⟩ (.int .i64 x)).setCell ⟨g, k, none⟩ (.int .i64 y)) (some g)) := grown_set (grown_set (grown_on HGR.out (Below.refl _ _).drew) _ _) _ _
            have HL2 : Hid ((swapL s k x y).length = l.length) := by show _ = _; rw [swapL_len]; exact hsl.out
            clear HROW HROOM HGR d0 d1 f0 f1
            go_wp2
            go_roundw
            case rel => exact ⟨k, swapL s k x y, by go_num, by omega, HL2.out, HSW.out, HMW.out, HR2.out, HM2.out, HG2.out⟩
            case measure => simp [intOf]
    · have HN : Hid (Srt s s.length) := by
        show Srt s s.length
        rw [hsl.out]
        intro a b x y h1 h2 hx hy
        exact hsrt.out a b x y h1 (by omega) hx hy
      have hli : ¬ (i : Int) < (l.length : Int) := by omega
      go_wp2
      go_end0
      exact ⟨⟨_, rfl⟩, s, hsl.out, HN.out, hmem.out, hrow.out, hroom.out, hgr.out⟩
/-- A row has been sorted. -/
def Sorted (g : Nat) (l : List Int) (w w' : World) : Prop := ∃ s : List Int, s.length = l.length ∧ Srt s s.length ∧ (∀ x, x ∈ s ↔ x ∈ l) ∧ IRow w' g 0 s ∧ Room w' g l.length ∧ w.grownBy w' (some g)
set_option maxRecDepth 100000 in
set_option maxHeartbeats 1000000 in
theorem pdqSort (g cap : Nat) (l : List Int) (hl : l.length ≤ 12) (lim : Int) (w : World) (hr : IRow w g 0 l) (hm : Room w g l.length) :
    Calls Try.prog 60 #[.slice (some ⟨g, 0, none⟩) l.length cap, .int .i64 0, .int .i64 (l.length : Int), .int .i64 lim] w fun e w' => (∃ v, e = .returned v) ∧ Sorted g l w w' := by
  have HR : Hid (IRow w g 0 l) := hr
  have HM : Hid (Room w g l.length) := hm
  clear hr hm
  have hli : (l.length : Int) ≤ 12 := by omega
  have hws : IntKind.i64.wrap (l.length : Int) = (l.length : Int) := by simp [IntKind.wrap, IntKind.signed, IntKind.bits]; omega
  go_enter Try.func60, Try.ntmps60
  go_wp2
  go_loopw [1, 2] (fun a b wr => a = .int .i64 0 ∧ b = .int .i64 (l.length : Int) ∧ wr = w) (fun _ _ _ => 0)
  case atStart => exact ⟨rfl, rfl, rfl⟩
  case round =>
    obtain ⟨rfl, rfl, rfl⟩ := hrel
    go_wp2_with fail
    refine (insertionSort g cap l hl _ HR.out HM.out).mono ?_
    rintro e w1 ⟨⟨v, rfl⟩, hs⟩
    have HS : Hid (Sorted g l wr w1) := hs
    clear hs
    go_wp2
    refine bodyPost_ret (results_none rfl _ _ _) rfl ?_
    exact ⟨⟨_, rfl⟩, HS.out⟩
set_option maxHeartbeats 1000000 in
theorem slicesSort (g cap : Nat) (l : List Int) (hl : l.length ≤ 12) (w : World) (hr : IRow w g 0 l) (hm : Room w g l.length) :
    Calls Try.prog 46 #[.slice (some ⟨g, 0, none⟩) l.length cap] w fun e w' => (∃ v, e = .returned v) ∧ Sorted g l w w' := by
  have HR : Hid (IRow w g 0 l) := hr
  have HM : Hid (Room w g l.length) := hm
  clear hr hm
  have hwu : IntKind.u64.wrap (l.length : Int) = (l.length : Int) := by simp [IntKind.wrap, IntKind.signed, IntKind.bits]; omega
  go_enter Try.func46, Try.ntmps46
  go_wp2_with fail
  refine (bitsLen l.length hl _).mono ?_
  rintro e w1 ⟨⟨r, rfl⟩, rfl⟩
  go_wp2_with fail
  refine (pdqSort g cap l hl r _ HR.out HM.out).mono ?_
  rintro e w2 ⟨⟨v, rfl⟩, hs⟩
  have HS : Hid (Sorted g l w1 w2) := hs
  clear hs
  go_wp2
  go_end0
  exact ⟨⟨_, rfl⟩, HS.out⟩
end Pg
end Go.Proofs.Ythjjfjakldbimab

/- Contracts of the laws' own comparing of machines, where both are the same. -/
import Derived.Test.YtobaeenngffndaaMv2
namespace Go.Proofs.Ytobaeenngffndaa
namespace Pg
open Go.ChangeShapes Go.WideShapes Go.ChangeAt Go.RowKit St

set_option maxHeartbeats 800000 in
theorem eqValue (x : Vl) (w : World) :
    Calls Try.prog 93 #[.agg #[.int .i64 x.1, .int .i64 x.2], .agg #[.int .i64 x.1, .int .i64 x.2]] w fun e w' => e = .returned (.bool true) ∧ Below w.heap.size w w' := by
  go_enter Try.func93, Try.ntmps93
  go_wp2
  go_ret
  exact ⟨rfl, by go_grown⟩
set_option maxRecDepth 100000 in
set_option maxHeartbeats 2000000 in
theorem eqValues {f f' : Bool} (B B' : Nat) (a a' : Option Addr) (cap cap' : Nat) (ms : List Vl) (hs : ms.length ≤ 1048576) (w : World) (h1 : SV f B w (.slice a ms.length cap) ms) (h2 : SV f' B' w (.slice a' ms.length cap') ms) :
    Calls Try.prog 82 #[.slice a ms.length cap, .slice a' ms.length cap'] w fun e w' => e = .returned (.bool true) ∧ Below w.heap.size w w' := by
  have H1 : Hid (SV f B w (.slice a ms.length cap) ms) := h1
  have H2 : Hid (SV f' B' w (.slice a' ms.length cap') ms) := h2
  have hn := hs
  clear h1 h2 hs
  go_enter Try.func82, Try.ntmps82
  go_wp2
  go_loopw [5] (fun i wr => ∃ k : Nat, k ≤ ms.length ∧ i = .int .i64 k ∧ Below w.heap.size w wr) (fun i _ => ms.length - (intOf i).toNat)
  case atStart => exact ⟨0, Nat.zero_le _, rfl, Below.refl _ _⟩
  case round =>
    obtain ⟨k, hk, rfl, hb⟩ := hrel
    by_cases hlt : k < ms.length
    · obtain ⟨b, o, rfl, _, a0, a1⟩ := (SV.on H1.out (Keep.of hb)).get hlt
      obtain ⟨b', o', rfl, _, b0, b1⟩ := (SV.on H2.out (Keep.of hb)).get hlt
      generalize ms[k] = m at *
      have hki : (k : Int) < (ms.length : Int) := by omega
      have hki0 : (0 : Int) ≤ (k : Int) := by omega
      have r0 := cell_regrown a0
      have s0 := cell_regrown b0
      have r1 := cell_regrown a1
      have s1 := cell_regrown b1
      have cE : ∀ d os, Calls Try.prog 93 #[.agg #[.int .i64 m.1, .int .i64 m.2], .agg #[.int .i64 m.1, .int .i64 m.2]] (Sort.grow (redrawn wr d) os) fun e w'' => e = .returned (.bool true) ∧ ∃ p : Regrown, w'' = Sort.grow (redrawn wr p.d) p.os := by
        intro d os
        exact Calls.regrown_of (eqValue m _)
      go_wp2_with fail
      refine wp_region_quiet_below (by kernel_rfl) (by kernel_rfl) ?_
      repeat (quiet_step ((go_at_call 93; exact cE _ _)))
      refine wpQuiet_nil ?_
      intro _ hw'
      obtain ⟨⟨dq, osq⟩, hw''⟩ := hw'
      subst hw''
      have hw1 : Below w.heap.size w (Sort.grow (redrawn wr dq) osq) := below_over hb (below_regrown wr dq osq)
      clear a0 b0 r0 s0 a1 b1 r1 s1 cE hb
      generalize Sort.grow (redrawn wr dq) osq = w1 at *
      go_wp2
      go_roundw
      case rel => exact ⟨k + 1, by omega, by go_num, hw1⟩
      case measure => simp [intOf]; omega
    · go_wp2
      go_ret
      exact ⟨rfl, hb⟩
set_option maxHeartbeats 1600000 in
theorem eqObject {f f' : Bool} (B B' : Nat) (x : Ob) (a1 b1 : Option Addr) (c1 d1 : Nat) (hs : SmallO1 x) (w : World) (h1 : OV f B w (.slice a1 x.flds.length c1) x) (h2 : OV f' B' w (.slice b1 x.flds.length d1) x) :
    Calls Try.prog 60 #[.agg #[.int .i64 x.cls, .slice a1 x.flds.length c1], .agg #[.int .i64 x.cls, .slice b1 x.flds.length d1]] w fun e w' => e = .returned (.bool true) ∧ Below w.heap.size w w' := by
  have H1 : Hid (OV f B w (.slice a1 x.flds.length c1) x) := h1
  have H2 : Hid (OV f' B' w (.slice b1 x.flds.length d1) x) := h2
  have HS1 : Hid (x.flds.length ≤ 1048576) := hs
  clear h1 h2 hs
  go_enter Try.func60, Try.ntmps60
  go_wp2_with fail
  refine (eqValues (f := f) (f' := f') B B' a1 b1 c1 d1 x.flds HS1.out _ ?_ ?_).mono ?_
  · exact SV.on (H1.out) (Keep.of (by go_grown))
  · exact SV.on (H2.out) (Keep.of (by go_grown))
  rintro e w1 ⟨rfl, hb1⟩
  have hw1 : Below w.heap.size w w1 := below_over (by go_grown) hb1
  have A1 : Hid (Cells w1 w.heap.size [.int .i64 x.cls, .slice a1 x.flds.length c1]) := by
    show Cells _ _ _
    refine Cells.on ?_ hb1
    exact (Cells.new w _ rfl _ _).alloc _
  have B1 : Hid (Cells w1 (w.heap.size + 1) [.int .i64 x.cls, .slice b1 x.flds.length d1]) := by
    show Cells _ _ _
    refine Cells.on ?_ hb1
    exact Cells.new (w.alloc _) _ (by simp) _ _
  clear hb1
  go_wp2
  go_ret
  exact ⟨rfl, hw1⟩
set_option maxRecDepth 100000 in
set_option maxHeartbeats 2000000 in
theorem eqObjects {f f' : Bool} (B B' : Nat) (a a' : Option Addr) (cap cap' : Nat) (ms : List Ob) (hs : SmallO ms) (w : World) (h1 : SO f B w (.slice a ms.length cap) ms) (h2 : SO f' B' w (.slice a' ms.length cap') ms) :
    Calls Try.prog 34 #[.slice a ms.length cap, .slice a' ms.length cap'] w fun e w' => e = .returned (.bool true) ∧ Below w.heap.size w w' := by
  have H1 : Hid (SO f B w (.slice a ms.length cap) ms) := h1
  have H2 : Hid (SO f' B' w (.slice a' ms.length cap') ms) := h2
  have hn := hs.1
  have HS : Hid (∀ m ∈ ms, SmallO1 m) := hs.2
  clear h1 h2 hs
  go_enter Try.func34, Try.ntmps34
  go_wp2
  go_loopw [5] (fun i wr => ∃ k : Nat, k ≤ ms.length ∧ i = .int .i64 k ∧ Below w.heap.size w wr) (fun i _ => ms.length - (intOf i).toNat)
  case atStart => exact ⟨0, Nat.zero_le _, rfl, Below.refl _ _⟩
  case round =>
    obtain ⟨k, hk, rfl, hb⟩ := hrel
    by_cases hlt : k < ms.length
    · obtain ⟨b, o, rfl, _, v1, a0, a1, hma⟩ := (SO.on H1.out (Keep.of hb)).get hlt
      obtain ⟨b', o', rfl, _, u1, b0, b1, hmb⟩ := (SO.on H2.out (Keep.of hb)).get hlt
      obtain ⟨x1, y1, rfl⟩ := (hma).form
      obtain ⟨z1, t1, rfl⟩ := (hmb).form
      have hsm := HS.out _ (List.getElem_mem hlt)
      generalize ms[k] = m at *
      have hki : (k : Int) < (ms.length : Int) := by omega
      have hki0 : (0 : Int) ≤ (k : Int) := by omega
      have r0 := cell_regrown a0
      have s0 := cell_regrown b0
      have r1 := cell_regrown a1
      have s1 := cell_regrown b1
      have cE : ∀ d os, Calls Try.prog 60 #[.agg #[.int .i64 m.cls, .slice x1 m.flds.length y1], .agg #[.int .i64 m.cls, .slice z1 m.flds.length t1]] (Sort.grow (redrawn wr d) os) fun e w'' => e = .returned (.bool true) ∧ ∃ p : Regrown, w'' = Sort.grow (redrawn wr p.d) p.os := by
        intro d os
        exact Calls.regrown_of (eqObject B B' m x1 z1 y1 t1 hsm _ (hma.on (Keep.of (below_regrown wr d os))) (hmb.on (Keep.of (below_regrown wr d os))))
      clear hma hmb hsm
      go_wp2_with fail
      refine wp_region_quiet_below (by kernel_rfl) (by kernel_rfl) ?_
      repeat (quiet_step ((go_at_call 60; exact cE _ _)))
      refine wpQuiet_nil ?_
      intro _ hw'
      obtain ⟨⟨dq, osq⟩, hw''⟩ := hw'
      subst hw''
      have hw1 : Below w.heap.size w (Sort.grow (redrawn wr dq) osq) := below_over hb (below_regrown wr dq osq)
      clear a0 b0 r0 s0 a1 b1 r1 s1 cE hb
      generalize Sort.grow (redrawn wr dq) osq = w1 at *
      go_wp2
      go_roundw
      case rel => exact ⟨k + 1, by omega, by go_num, hw1⟩
      case measure => simp [intOf]; omega
    · go_wp2
      go_ret
      exact ⟨rfl, hb⟩
set_option maxHeartbeats 1600000 in
theorem eqFrame {f f' : Bool} (B B' : Nat) (x : Fr) (a1 b1 a2 b2 : Option Addr) (c1 d1 c2 d2 : Nat) (hs : SmallF1 x) (w : World) (h1 : FV f B w (.slice a1 x.stk.length c1) (.slice a2 x.loc.length c2) x) (h2 : FV f' B' w (.slice b1 x.stk.length d1) (.slice b2 x.loc.length d2) x) :
    Calls Try.prog 61 #[.agg #[.int .i64 x.cls, .int .i64 x.name, .int .i64 x.pos, .slice a1 x.stk.length c1, .slice a2 x.loc.length c2], .agg #[.int .i64 x.cls, .int .i64 x.name, .int .i64 x.pos, .slice b1 x.stk.length d1, .slice b2 x.loc.length d2]] w fun e w' => e = .returned (.bool true) ∧ Below w.heap.size w w' := by
  have H1 : Hid (FV f B w (.slice a1 x.stk.length c1) (.slice a2 x.loc.length c2) x) := h1
  have H2 : Hid (FV f' B' w (.slice b1 x.stk.length d1) (.slice b2 x.loc.length d2) x) := h2
  have HS1 : Hid (x.stk.length ≤ 1048576) := hs.1
  have HS2 : Hid (x.loc.length ≤ 1048576) := hs.2
  clear h1 h2 hs
  go_enter Try.func61, Try.ntmps61
  go_wp2_with fail
  refine (eqValues (f := f) (f' := f') B B' a1 b1 c1 d1 x.stk HS1.out _ ?_ ?_).mono ?_
  · exact SV.on (H1.out.1) (Keep.of (by go_grown))
  · exact SV.on (H2.out.1) (Keep.of (by go_grown))
  rintro e w1 ⟨rfl, hb1⟩
  have hw1 : Below w.heap.size w w1 := below_over (by go_grown) hb1
  have A1 : Hid (Cells w1 w.heap.size [.int .i64 x.cls, .int .i64 x.name, .int .i64 x.pos, .slice a1 x.stk.length c1, .slice a2 x.loc.length c2]) := by
    show Cells _ _ _
    refine Cells.on ?_ hb1
    exact (Cells.new w _ rfl _ _).alloc _
  have B1 : Hid (Cells w1 (w.heap.size + 1) [.int .i64 x.cls, .int .i64 x.name, .int .i64 x.pos, .slice b1 x.stk.length d1, .slice b2 x.loc.length d2]) := by
    show Cells _ _ _
    refine Cells.on ?_ hb1
    exact Cells.new (w.alloc _) _ (by simp) _ _
  have p1_4 := A1.out.g4.1
  have q1_4 := B1.out.g4.1
  clear hb1
  go_wp2_with fail
  refine (eqValues (f := f) (f' := f') B B' a2 b2 c2 d2 x.loc HS2.out _ ?_ ?_).mono ?_
  · exact SV.on (H1.out.2) (Keep.of hw1)
  · exact SV.on (H2.out.2) (Keep.of hw1)
  rintro e w2 ⟨rfl, hb2⟩
  have hw2 : Below w.heap.size w w2 := below_over hw1 hb2
  have A2 : Hid (Cells w2 w.heap.size [.int .i64 x.cls, .int .i64 x.name, .int .i64 x.pos, .slice a1 x.stk.length c1, .slice a2 x.loc.length c2]) := A1.out.on hb2
  have B2 : Hid (Cells w2 (w.heap.size + 1) [.int .i64 x.cls, .int .i64 x.name, .int .i64 x.pos, .slice b1 x.stk.length d1, .slice b2 x.loc.length d2]) := B1.out.on hb2
  clear hw1 A1 B1 p1_4 q1_4
  clear hb2
  go_wp2
  go_ret
  exact ⟨rfl, hw2⟩
set_option maxRecDepth 100000 in
set_option maxHeartbeats 2000000 in
theorem eqFrames {f f' : Bool} (B B' : Nat) (a a' : Option Addr) (cap cap' : Nat) (ms : List Fr) (hs : SmallF ms) (w : World) (h1 : SF f B w (.slice a ms.length cap) ms) (h2 : SF f' B' w (.slice a' ms.length cap') ms) :
    Calls Try.prog 35 #[.slice a ms.length cap, .slice a' ms.length cap'] w fun e w' => e = .returned (.bool true) ∧ Below w.heap.size w w' := by
  have H1 : Hid (SF f B w (.slice a ms.length cap) ms) := h1
  have H2 : Hid (SF f' B' w (.slice a' ms.length cap') ms) := h2
  have hn := hs.1
  have HS : Hid (∀ m ∈ ms, SmallF1 m) := hs.2
  clear h1 h2 hs
  go_enter Try.func35, Try.ntmps35
  go_wp2
  go_loopw [5] (fun i wr => ∃ k : Nat, k ≤ ms.length ∧ i = .int .i64 k ∧ Below w.heap.size w wr) (fun i _ => ms.length - (intOf i).toNat)
  case atStart => exact ⟨0, Nat.zero_le _, rfl, Below.refl _ _⟩
  case round =>
    obtain ⟨k, hk, rfl, hb⟩ := hrel
    by_cases hlt : k < ms.length
    · obtain ⟨b, o, rfl, _, v1, v2, a0, a1, a2, a3, a4, hma⟩ := (SF.on H1.out (Keep.of hb)).get hlt
      obtain ⟨b', o', rfl, _, u1, u2, b0, b1, b2, b3, b4, hmb⟩ := (SF.on H2.out (Keep.of hb)).get hlt
      obtain ⟨x1, y1, rfl⟩ := (hma.1).form
      obtain ⟨z1, t1, rfl⟩ := (hmb.1).form
      obtain ⟨x2, y2, rfl⟩ := (hma.2).form
      obtain ⟨z2, t2, rfl⟩ := (hmb.2).form
      have hsm := HS.out _ (List.getElem_mem hlt)
      generalize ms[k] = m at *
      have hki : (k : Int) < (ms.length : Int) := by omega
      have hki0 : (0 : Int) ≤ (k : Int) := by omega
      have r0 := cell_regrown a0
      have s0 := cell_regrown b0
      have r1 := cell_regrown a1
      have s1 := cell_regrown b1
      have r2 := cell_regrown a2
      have s2 := cell_regrown b2
      have r3 := cell_regrown a3
      have s3 := cell_regrown b3
      have r4 := cell_regrown a4
      have s4 := cell_regrown b4
      have cE : ∀ d os, Calls Try.prog 61 #[.agg #[.int .i64 m.cls, .int .i64 m.name, .int .i64 m.pos, .slice x1 m.stk.length y1, .slice x2 m.loc.length y2], .agg #[.int .i64 m.cls, .int .i64 m.name, .int .i64 m.pos, .slice z1 m.stk.length t1, .slice z2 m.loc.length t2]] (Sort.grow (redrawn wr d) os) fun e w'' => e = .returned (.bool true) ∧ ∃ p : Regrown, w'' = Sort.grow (redrawn wr p.d) p.os := by
        intro d os
        exact Calls.regrown_of (eqFrame B B' m x1 z1 x2 z2 y1 t1 y2 t2 hsm _ (hma.on (Keep.of (below_regrown wr d os))) (hmb.on (Keep.of (below_regrown wr d os))))
      clear hma hmb hsm
      go_wp2_with fail
      refine wp_region_quiet_below (by kernel_rfl) (by kernel_rfl) ?_
      repeat (quiet_step ((go_at_call 61; exact cE _ _)))
      refine wpQuiet_nil ?_
      intro _ hw'
      obtain ⟨⟨dq, osq⟩, hw''⟩ := hw'
      subst hw''
      have hw1 : Below w.heap.size w (Sort.grow (redrawn wr dq) osq) := below_over hb (below_regrown wr dq osq)
      clear a0 b0 r0 s0 a1 b1 r1 s1 a2 b2 r2 s2 a3 b3 r3 s3 a4 b4 r4 s4 cE hb
      generalize Sort.grow (redrawn wr dq) osq = w1 at *
      go_wp2
      go_roundw
      case rel => exact ⟨k + 1, by omega, by go_num, hw1⟩
      case measure => simp [intOf]; omega
    · go_wp2
      go_ret
      exact ⟨rfl, hb⟩
set_option maxHeartbeats 1600000 in
theorem eqMachine {f f' : Bool} (B B' : Nat) (x : Mc) (a1 b1 a2 b2 a3 b3 : Option Addr) (c1 d1 c2 d2 c3 d3 : Nat) (hs : SmallK x) (w : World) (h1 : KV f B w (.slice a1 x.heap.length c1) (.slice a2 x.frames.length c2) (.slice a3 x.said.length c3) x) (h2 : KV f' B' w (.slice b1 x.heap.length d1) (.slice b2 x.frames.length d2) (.slice b3 x.said.length d3) x) :
    Calls Try.prog 9 #[.agg #[.slice a1 x.heap.length c1, .slice a2 x.frames.length c2, .slice a3 x.said.length c3, .int .i64 x.fin, .int .i64 x.code], .agg #[.slice b1 x.heap.length d1, .slice b2 x.frames.length d2, .slice b3 x.said.length d3, .int .i64 x.fin, .int .i64 x.code]] w fun e w' => e = .returned (.bool true) ∧ Below w.heap.size w w' := by
  have H1 : Hid (KV f B w (.slice a1 x.heap.length c1) (.slice a2 x.frames.length c2) (.slice a3 x.said.length c3) x) := h1
  have H2 : Hid (KV f' B' w (.slice b1 x.heap.length d1) (.slice b2 x.frames.length d2) (.slice b3 x.said.length d3) x) := h2
  have HS1 : Hid (SmallO x.heap) := hs.1
  have HS2 : Hid (SmallF x.frames) := hs.2.1
  have HS3 : Hid (x.said.length ≤ 1048576) := hs.2.2
  clear h1 h2 hs
  go_enter Try.func9, Try.ntmps9
  go_wp2_with fail
  refine (eqObjects (f := f) (f' := f') B B' a1 b1 c1 d1 x.heap HS1.out _ ?_ ?_).mono ?_
  · exact SO.on (H1.out.1) (Keep.of (by go_grown))
  · exact SO.on (H2.out.1) (Keep.of (by go_grown))
  rintro e w1 ⟨rfl, hb1⟩
  have hw1 : Below w.heap.size w w1 := below_over (by go_grown) hb1
  have A1 : Hid (Cells w1 w.heap.size [.slice a1 x.heap.length c1, .slice a2 x.frames.length c2, .slice a3 x.said.length c3, .int .i64 x.fin, .int .i64 x.code]) := by
    show Cells _ _ _
    refine Cells.on ?_ hb1
    exact (Cells.new w _ rfl _ _).alloc _
  have B1 : Hid (Cells w1 (w.heap.size + 1) [.slice b1 x.heap.length d1, .slice b2 x.frames.length d2, .slice b3 x.said.length d3, .int .i64 x.fin, .int .i64 x.code]) := by
    show Cells _ _ _
    refine Cells.on ?_ hb1
    exact Cells.new (w.alloc _) _ (by simp) _ _
  have p1_1 := A1.out.g1.1
  have q1_1 := B1.out.g1.1
  clear hb1
  go_wp2_with fail
  refine (eqFrames (f := f) (f' := f') B B' a2 b2 c2 d2 x.frames HS2.out _ ?_ ?_).mono ?_
  · exact SF.on (H1.out.2.1) (Keep.of hw1)
  · exact SF.on (H2.out.2.1) (Keep.of hw1)
  rintro e w2 ⟨rfl, hb2⟩
  have hw2 : Below w.heap.size w w2 := below_over hw1 hb2
  have A2 : Hid (Cells w2 w.heap.size [.slice a1 x.heap.length c1, .slice a2 x.frames.length c2, .slice a3 x.said.length c3, .int .i64 x.fin, .int .i64 x.code]) := A1.out.on hb2
  have B2 : Hid (Cells w2 (w.heap.size + 1) [.slice b1 x.heap.length d1, .slice b2 x.frames.length d2, .slice b3 x.said.length d3, .int .i64 x.fin, .int .i64 x.code]) := B1.out.on hb2
  clear hw1 A1 B1 p1_1 q1_1
  have p2_2 := A2.out.g2.1
  have q2_2 := B2.out.g2.1
  clear hb2
  go_wp2_with fail
  refine (eqInts' (f := f) (f' := f') B B' a3 b3 c3 d3 x.said HS3.out _ ?_ ?_).mono ?_
  · exact SI.on (H1.out.2.2) (Keep.of hw2)
  · exact SI.on (H2.out.2.2) (Keep.of hw2)
  rintro e w3 ⟨rfl, hb3⟩
  have hw3 : Below w.heap.size w w3 := below_over hw2 hb3
  have A3 : Hid (Cells w3 w.heap.size [.slice a1 x.heap.length c1, .slice a2 x.frames.length c2, .slice a3 x.said.length c3, .int .i64 x.fin, .int .i64 x.code]) := A2.out.on hb3
  have B3 : Hid (Cells w3 (w.heap.size + 1) [.slice b1 x.heap.length d1, .slice b2 x.frames.length d2, .slice b3 x.said.length d3, .int .i64 x.fin, .int .i64 x.code]) := B2.out.on hb3
  clear hw2 A2 B2 p2_2 q2_2
  have p3_3 := A3.out.g3.1
  have q3_3 := B3.out.g3.1
  have p3_4 := A3.out.g4.1
  have q3_4 := B3.out.g4.1
  clear hb3
  go_wp2
  go_ret
  exact ⟨rfl, hw3⟩
end Pg
end Go.Proofs.Ytobaeenngffndaa

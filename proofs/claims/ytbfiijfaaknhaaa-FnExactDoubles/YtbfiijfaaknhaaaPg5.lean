/- Contracts of the laws' own comparing of programs, where both are the same. -/
import Derived.Test.YtbfiijfaaknhaaaPg4
namespace Go.Proofs.Ytbfiijfaaknhaaa
namespace Pg
open Go.ChangeShapes Go.WideShapes Go.ChangeAt Go.RowKit St

set_option maxHeartbeats 800000 in
theorem eqInts' {f f' : Bool} (B B' : Nat) (a a' : Option Addr) (cap cap' : Nat) (l : List Int) (hl : l.length ≤ 1048576) (w : World) (h1 : SI f B w (.slice a l.length cap) l) (h2 : SI f' B' w (.slice a' l.length cap') l) :
    Calls Try.prog 20 #[.slice a l.length cap, .slice a' l.length cap'] w fun e w' => e = .returned (.bool true) ∧ Below w.heap.size w w' := by
  have H1 : Hid (SI f B w (.slice a l.length cap) l) := h1
  have H2 : Hid (SI f' B' w (.slice a' l.length cap') l) := h2
  clear h1 h2
  go_enter Try.func20, Try.ntmps20
  go_wp2
  go_loopw [5] (fun i wr => ∃ k : Nat, k ≤ l.length ∧ i = .int .i64 k ∧ Below w.heap.size w wr) (fun i _ => l.length - (intOf i).toNat)
  case atStart => exact ⟨0, Nat.zero_le _, rfl, Below.refl _ _⟩
  case round =>
    obtain ⟨k, hk, rfl, hb⟩ := hrel
    by_cases hlt : k < l.length
    · obtain ⟨b, o, rfl, _, a0⟩ := (SI.on H1.out (Keep.of hb)).get hlt
      obtain ⟨b', o', rfl, _, b0⟩ := (SI.on H2.out (Keep.of hb)).get hlt
      unfold IntAt at a0 b0
      rw [Nat.mul_one] at a0 b0
      generalize l[k] = x at *
      have hki : (k : Int) < (l.length : Int) := by omega
      have hki0 : (0 : Int) ≤ (k : Int) := by omega
      have r0 := cell_regrown a0
      have s0 := cell_regrown b0
      go_wp2_with fail
      refine wp_region_quiet_below (by kernel_rfl) (by kernel_rfl) ?_
      repeat (quiet_step (fail))
      refine wpQuiet_nil ?_
      intro _ hw'
      obtain ⟨⟨dq, osq⟩, hw''⟩ := hw'
      subst hw''
      have hw1 : Below w.heap.size w (Sort.grow (redrawn wr dq) osq) := below_over hb (below_regrown wr dq osq)
      clear a0 b0 r0 s0 hb
      generalize Sort.grow (redrawn wr dq) osq = w1 at *
      go_wp2
      go_roundw
      case rel => exact ⟨k + 1, by omega, by go_num, hw1⟩
      case measure => simp [intOf]; omega
    · go_wp2
      go_ret
      exact ⟨rfl, hb⟩
theorem eqRow' (B B' : Nat) (v v' : Value) (l : List Tx.Ins) (hl : l.length ≤ 1048576) (w : World) (h1 : CS B w v l) (h2 : CS B' w v' l) :
    Calls Try.prog 34 #[v, v'] w fun e w' => e = .returned (.bool true) ∧ Below w.heap.size w w' := by
  obtain ⟨g, cap, rfl, _, _, r1, _⟩ := h1
  obtain ⟨g', cap', rfl, _, _, r2, _⟩ := h2
  exact eqRows g g' cap cap' l hl w r1 r2

set_option maxHeartbeats 800000 in
theorem eqMethod (B B' : Nat) (m : Meth) (aa aa' ac ac' : Option Addr) (ca ca' cc cc' : Nat) (hs : SmallM m) (w : World) (h1 : MV front B w (.slice aa m.args.length ca) (.slice ac m.code.length cc) m) (h2 : MV front B' w (.slice aa' m.args.length ca') (.slice ac' m.code.length cc') m) :
    Calls Try.prog 11 #[.agg #[.int .i64 m.name, .slice aa m.args.length ca, .int .i64 m.gives, .slice ac m.code.length cc], .agg #[.int .i64 m.name, .slice aa' m.args.length ca', .int .i64 m.gives, .slice ac' m.code.length cc']] w fun e w' => e = .returned (.bool true) ∧ Below w.heap.size w w' := by
  have H1 : Hid (MV front B w (.slice aa m.args.length ca) (.slice ac m.code.length cc) m) := h1
  have H2 : Hid (MV front B' w (.slice aa' m.args.length ca') (.slice ac' m.code.length cc') m) := h2
  have hs1 := hs.1
  have hs2 := hs.2
  clear h1 h2 hs
  go_enter Try.func11, Try.ntmps11
  go_wp2_with fail
  refine (eqInts' (f := true) (f' := true) B B' aa aa' ca ca' m.args hs1 _ ?_ ?_).mono ?_
  · exact SI.on H1.out.1 (Keep.of (by go_grown))
  · exact SI.on H2.out.1 (Keep.of (by go_grown))
  rintro e w1 ⟨rfl, hb1⟩
  have hw1 : Below w.heap.size w w1 := below_over (by go_grown) hb1
  have A1 : Cells w1 w.heap.size [.int .i64 m.name, .slice aa m.args.length ca, .int .i64 m.gives, .slice ac m.code.length cc] := by
    refine Cells.on ?_ hb1
    exact (Cells.new w _ rfl _ _).alloc _
  have B1 : Cells w1 (w.heap.size + 1) [.int .i64 m.name, .slice aa' m.args.length ca', .int .i64 m.gives, .slice ac' m.code.length cc'] := by
    refine Cells.on ?_ hb1
    exact Cells.new (w.alloc _) _ (by simp) _ _
  have a2 := A1.g2.1
  have a3 := A1.g3.1
  have b2 := B1.g2.1
  have b3 := B1.g3.1
  clear A1 B1 hb1
  go_wp2_with fail
  refine (eqRow' B B' _ _ m.code hs2 _ (front.on H1.out.2 (Keep.of hw1)) (front.on H2.out.2 (Keep.of hw1))).mono ?_
  rintro e w2 ⟨rfl, hb2⟩
  have hw2 : Below w.heap.size w w2 := below_over hw1 hb2
  clear hb2 hw1 a2 a3 b2 b3
  go_wp2
  go_ret
  exact ⟨rfl, hw2⟩

set_option maxRecDepth 100000 in
set_option maxHeartbeats 1000000 in
theorem eqMethods (B B' : Nat) (a a' : Option Addr) (cap cap' : Nat) (ms : List Meth) (hn : ms.length ≤ 1048576) (hs : ∀ m ∈ ms, SmallM m) (w : World) (h1 : SM front B w (.slice a ms.length cap) ms) (h2 : SM front B' w (.slice a' ms.length cap') ms) :
    Calls Try.prog 77 #[.slice a ms.length cap, .slice a' ms.length cap'] w fun e w' => e = .returned (.bool true) ∧ Below w.heap.size w w' := by
  have H1 : Hid (SM front B w (.slice a ms.length cap) ms) := h1
  have H2 : Hid (SM front B' w (.slice a' ms.length cap') ms) := h2
  have HS : Hid (∀ m ∈ ms, SmallM m) := hs
  clear h1 h2 hs
  go_enter Try.func77, Try.ntmps77
  go_wp2
  go_loopw [5] (fun i wr => ∃ k : Nat, k ≤ ms.length ∧ i = .int .i64 k ∧ Below w.heap.size w wr) (fun i _ => ms.length - (intOf i).toNat)
  case atStart => exact ⟨0, Nat.zero_le _, rfl, Below.refl _ _⟩
  case round =>
    obtain ⟨k, hk, rfl, hb⟩ := hrel
    by_cases hlt : k < ms.length
    · obtain ⟨b, o, rfl, _, va, vc, a0, a1, a2, a3, hma⟩ := (SM.on H1.out (Keep.of hb)).get hlt
      obtain ⟨b', o', rfl, _, va', vc', b0, b1, b2, b3, hmb⟩ := (SM.on H2.out (Keep.of hb)).get hlt
      obtain ⟨x1, y1, rfl⟩ := hma.1.form
      obtain ⟨x2, y2, rfl⟩ := front.form hma.2
      obtain ⟨x3, y3, rfl⟩ := hmb.1.form
      obtain ⟨x4, y4, rfl⟩ := front.form hmb.2
      have hsm := HS.out _ (List.getElem_mem hlt)
      generalize ms[k] = m at *
      have hki : (k : Int) < (ms.length : Int) := by omega
      have hki0 : (0 : Int) ≤ (k : Int) := by omega
      have r0 := cell_regrown a0
      have r1 := cell_regrown a1
      have r2 := cell_regrown a2
      have r3 := cell_regrown a3
      have s0 := cell_regrown b0
      have s1 := cell_regrown b1
      have s2 := cell_regrown b2
      have s3 := cell_regrown b3
      have cE : ∀ d os, Calls Try.prog 11 #[.agg #[.int .i64 m.name, .slice x1 m.args.length y1, .int .i64 m.gives, .slice x2 m.code.length y2], .agg #[.int .i64 m.name, .slice x3 m.args.length y3, .int .i64 m.gives, .slice x4 m.code.length y4]] (Sort.grow (redrawn wr d) os) fun e w'' => e = .returned (.bool true) ∧ ∃ p : Regrown, w'' = Sort.grow (redrawn wr p.d) p.os := by
        intro d os
        exact Calls.regrown_of (eqMethod B B' m x1 x3 x2 x4 y1 y3 y2 y4 hsm _ (hma.on (Keep.of (below_regrown wr d os))) (hmb.on (Keep.of (below_regrown wr d os))))
      clear hma hmb hsm
      go_wp2_with fail
      refine wp_region_quiet_below (by kernel_rfl) (by kernel_rfl) ?_
      repeat (quiet_step ((go_at_call 11; exact cE _ _)))
      refine wpQuiet_nil ?_
      intro _ hw'
      obtain ⟨⟨dq, osq⟩, hw''⟩ := hw'
      subst hw''
      have hw1 : Below w.heap.size w (Sort.grow (redrawn wr dq) osq) := below_over hb (below_regrown wr dq osq)
      clear a0 a1 a2 a3 b0 b1 b2 b3 r0 r1 r2 r3 s0 s1 s2 s3 cE hb
      generalize Sort.grow (redrawn wr dq) osq = w1 at *
      go_wp2
      go_roundw
      case rel => exact ⟨k + 1, by omega, by go_num, hw1⟩
      case measure => simp [intOf]; omega
    · go_wp2
      go_ret
      exact ⟨rfl, hb⟩

set_option maxHeartbeats 800000 in
theorem eqClass (B B' : Nat) (c : Cls) (aa aa' ac ac' : Option Addr) (ca ca' cc cc' : Nat) (hs : SmallC c) (w : World) (h1 : CV front B w (.slice aa c.fields.length ca) (.slice ac c.meths.length cc) c) (h2 : CV front B' w (.slice aa' c.fields.length ca') (.slice ac' c.meths.length cc') c) :
    Calls Try.prog 57 #[.agg #[.int .i64 c.super, .slice aa c.fields.length ca, .slice ac c.meths.length cc], .agg #[.int .i64 c.super, .slice aa' c.fields.length ca', .slice ac' c.meths.length cc']] w fun e w' => e = .returned (.bool true) ∧ Below w.heap.size w w' := by
  have H1 : Hid (CV front B w (.slice aa c.fields.length ca) (.slice ac c.meths.length cc) c) := h1
  have H2 : Hid (CV front B' w (.slice aa' c.fields.length ca') (.slice ac' c.meths.length cc') c) := h2
  have hs1 := hs.1
  have hs2 := hs.2.1
  have HS3 : Hid (∀ m ∈ c.meths, SmallM m) := hs.2.2
  clear h1 h2 hs
  go_enter Try.func57, Try.ntmps57
  go_wp2_with fail
  refine (eqInts' (f := true) (f' := true) B B' aa aa' ca ca' c.fields hs1 _ ?_ ?_).mono ?_
  · exact SI.on H1.out.1 (Keep.of (by go_grown))
  · exact SI.on H2.out.1 (Keep.of (by go_grown))
  rintro e w1 ⟨rfl, hb1⟩
  have hw1 : Below w.heap.size w w1 := below_over (by go_grown) hb1
  have A1 : Cells w1 w.heap.size [.int .i64 c.super, .slice aa c.fields.length ca, .slice ac c.meths.length cc] := by
    refine Cells.on ?_ hb1
    exact (Cells.new w _ rfl _ _).alloc _
  have B1 : Cells w1 (w.heap.size + 1) [.int .i64 c.super, .slice aa' c.fields.length ca', .slice ac' c.meths.length cc'] := by
    refine Cells.on ?_ hb1
    exact Cells.new (w.alloc _) _ (by simp) _ _
  have a2 := A1.g2.1
  have b2 := B1.g2.1
  clear A1 B1 hb1
  go_wp2_with fail
  refine (eqMethods B B' ac ac' cc cc' c.meths hs2 HS3.out _ (SM.on H1.out.2 (Keep.of hw1)) (SM.on H2.out.2 (Keep.of hw1))).mono ?_
  rintro e w2 ⟨rfl, hb2⟩
  have hw2 : Below w.heap.size w w2 := below_over hw1 hb2
  clear hb2 hw1 a2 b2
  go_wp2
  go_ret
  exact ⟨rfl, hw2⟩

set_option maxRecDepth 100000 in
set_option maxHeartbeats 1000000 in
theorem eqClasses (B B' : Nat) (a a' : Option Addr) (cap cap' : Nat) (ms : Prg) (hs : SmallP ms) (w : World) (h1 : SK front B w (.slice a ms.length cap) ms) (h2 : SK front B' w (.slice a' ms.length cap') ms) :
    Calls Try.prog 35 #[.slice a ms.length cap, .slice a' ms.length cap'] w fun e w' => e = .returned (.bool true) ∧ Below w.heap.size w w' := by
  have H1 : Hid (SK front B w (.slice a ms.length cap) ms) := h1
  have H2 : Hid (SK front B' w (.slice a' ms.length cap') ms) := h2
  have hn := hs.1
  have HS : Hid (∀ m ∈ ms, SmallC m) := hs.2
  clear h1 h2 hs
  go_enter Try.func35, Try.ntmps35
  go_wp2
  go_loopw [5] (fun i wr => ∃ k : Nat, k ≤ ms.length ∧ i = .int .i64 k ∧ Below w.heap.size w wr) (fun i _ => ms.length - (intOf i).toNat)
  case atStart => exact ⟨0, Nat.zero_le _, rfl, Below.refl _ _⟩
  case round =>
    obtain ⟨k, hk, rfl, hb⟩ := hrel
    by_cases hlt : k < ms.length
    · obtain ⟨b, o, rfl, _, va, vc, a0, a1, a2, hma⟩ := (SK.on H1.out (Keep.of hb)).get hlt
      obtain ⟨b', o', rfl, _, va', vc', b0, b1, b2, hmb⟩ := (SK.on H2.out (Keep.of hb)).get hlt
      obtain ⟨x1, y1, rfl⟩ := hma.1.form
      obtain ⟨x2, y2, rfl⟩ := hma.2.form
      obtain ⟨x3, y3, rfl⟩ := hmb.1.form
      obtain ⟨x4, y4, rfl⟩ := hmb.2.form
      have hsm := HS.out _ (List.getElem_mem hlt)
      generalize ms[k] = m at *
      have hki : (k : Int) < (ms.length : Int) := by omega
      have hki0 : (0 : Int) ≤ (k : Int) := by omega
      have r0 := cell_regrown a0
      have r1 := cell_regrown a1
      have r2 := cell_regrown a2
      have s0 := cell_regrown b0
      have s1 := cell_regrown b1
      have s2 := cell_regrown b2
      have cE : ∀ d os, Calls Try.prog 57 #[.agg #[.int .i64 m.super, .slice x1 m.fields.length y1, .slice x2 m.meths.length y2], .agg #[.int .i64 m.super, .slice x3 m.fields.length y3, .slice x4 m.meths.length y4]] (Sort.grow (redrawn wr d) os) fun e w'' => e = .returned (.bool true) ∧ ∃ p : Regrown, w'' = Sort.grow (redrawn wr p.d) p.os := by
        intro d os
        exact Calls.regrown_of (eqClass B B' m x1 x3 x2 x4 y1 y3 y2 y4 hsm _ (hma.on (Keep.of (below_regrown wr d os))) (hmb.on (Keep.of (below_regrown wr d os))))
      clear hma hmb hsm
      go_wp2_with fail
      refine wp_region_quiet_below (by kernel_rfl) (by kernel_rfl) ?_
      repeat (quiet_step ((go_at_call 57; exact cE _ _)))
      refine wpQuiet_nil ?_
      intro _ hw'
      obtain ⟨⟨dq, osq⟩, hw''⟩ := hw'
      subst hw''
      have hw1 : Below w.heap.size w (Sort.grow (redrawn wr dq) osq) := below_over hb (below_regrown wr dq osq)
      clear a0 a1 a2 b0 b1 b2 r0 r1 r2 s0 s1 s2 cE hb
      generalize Sort.grow (redrawn wr dq) osq = w1 at *
      go_wp2
      go_roundw
      case rel => exact ⟨k + 1, by omega, by go_num, hw1⟩
      case measure => simp [intOf]; omega
    · go_wp2
      go_ret
      exact ⟨rfl, hb⟩

set_option maxHeartbeats 800000 in
theorem eqProgram (B B' : Nat) (v v' : Value) (p : Prg) (hs : SmallP p) (w : World) (h1 : SK front B w v p) (h2 : SK front B' w v' p) :
    Calls Try.prog 12 #[.agg #[v], .agg #[v']] w fun e w' => e = .returned (.bool true) ∧ Below w.heap.size w w' := by
  obtain ⟨a, cap, rfl⟩ := h1.form
  obtain ⟨a', cap', rfl⟩ := h2.form
  have H1 : Hid (SK front B w (.slice a p.length cap) p) := h1
  have H2 : Hid (SK front B' w (.slice a' p.length cap') p) := h2
  have HS : Hid (SmallP p) := hs
  clear h1 h2 hs
  go_enter Try.func12, Try.ntmps12
  go_wp2_with fail
  refine (eqClasses B B' a a' cap cap' p HS.out _ ?_ ?_).mono ?_
  · exact SK.on H1.out (Keep.of (by go_grown))
  · exact SK.on H2.out (Keep.of (by go_grown))
  rintro e w1 ⟨rfl, hb1⟩
  have hw1 : Below w.heap.size w w1 := below_over (by go_grown) hb1
  clear hb1
  go_wp2
  go_ret
  exact ⟨rfl, hw1⟩
end Pg
end Go.Proofs.Ytbfiijfaaknhaaa

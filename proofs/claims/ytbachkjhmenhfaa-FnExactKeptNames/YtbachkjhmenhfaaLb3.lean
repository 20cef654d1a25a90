/- Contracts of the laws' own functions on labels: copied and held against each other. -/
import Derived.Test.YtbachkjhmenhfaaLb2
namespace Go.Proofs.Ytbachkjhmenhfaa
namespace Pg
open Go.ChangeShapes Go.WideShapes Go.ChangeAt Go.RowKit St

theorem zeroLab : (Try.prog.info? 29).map (fun i => (i.zero, i.size)) = some (some (.agg #[.slice none 0 0, .slice none 0 0]), 2) := by kernel_rfl
set_option maxRecDepth 100000 in
set_option maxHeartbeats 1000000 in
theorem toLabs (a1 a2 : Option Addr) (c1 c2 : Nat) (l1 l2 : List ByteArray) (h1 : l1.length ≤ 1048576) (h2 : l2.length ≤ 1048576) (w : World) (k1 : ST 0 w (.slice a1 l1.length c1) l1) (k2 : ST 0 w (.slice a2 l2.length c2) l2) :
    Calls Try.prog 25 #[.agg #[.slice a1 l1.length c1, .slice a2 l2.length c2]] w fun e w' => ∃ g1 g2, e = .returned (.agg #[.slice (some ⟨g1, 0, none⟩) l1.length l1.length, .slice (some ⟨g2, 0, none⟩) l2.length l2.length]) ∧ TR w' g1 l1 ∧ TR w' g2 l2 ∧ w.heap.size ≤ g1 ∧ g1 < g2 ∧ Below w.heap.size w w' := by
  have HK1 : Hid (ST 0 w (.slice a1 l1.length c1) l1) := k1
  have HK2 : Hid (ST 0 w (.slice a2 l2.length c2) l2) := k2
  clear k1 k2
  obtain ⟨W, hW⟩ : ∃ W, W = ((w.alloc (.cells #[.slice a1 l1.length c1, .slice a2 l2.length c2] 38)).alloc (.cells #[.slice none 0 0, .slice none 0 0] 29)).alloc (.cells #[.slice none 0 0, .slice none 0 0] 29) := ⟨_, rfl⟩
  have hwW : Below w.heap.size w W := by rw [hW]; exact (((Below.refl _ _).alloc (Nat.le_refl _) _).alloc (by simp) _).alloc (by simp; omega) _
  have C0 : Hid (Cells W w.heap.size [.slice a1 l1.length c1, .slice a2 l2.length c2]) := by show Cells _ _ _; rw [hW]; exact ((Cells.new w _ rfl _ _).alloc _).alloc _
  have C1 : Hid (Cells W (w.heap.size + 1) [.slice none 0 0, .slice none 0 0]) := by show Cells _ _ _; rw [hW]; exact (Cells.new (w.alloc _) _ (by simp) _ _).alloc _
  have C2 : Hid (Cells W (w.heap.size + 1 + 1) [.slice none 0 0, .slice none 0 0]) := by show Cells _ _ _; rw [hW]; exact Cells.new ((w.alloc _).alloc _) _ (by simp) _ _
  have HZ : Hid (W.heap.size = w.heap.size + 1 + 1 + 1) := by show _ = _; rw [hW]; simp
  go_enter Try.func25, Try.ntmps25
  go_wp2_with fail
  rw [← hW]
  clear hW
  refine (toStrs a1 c1 l1 h1 _ (HK1.out.on (Keep.of hwW))).mono ?_
  rintro e w1 ⟨rfl, r1, hb1⟩
  obtain ⟨G1, hG1⟩ : ∃ G, G = W.heap.size := ⟨_, rfl⟩
  rw [← hG1] at r1
  rw [← hG1]
  have O1 := C2.out.on hb1
  obtain ⟨o0, f0⟩ := O1.g0
  obtain ⟨a1', _⟩ := ((C0.out.on hb1).far ⟨w.heap.size + 1 + 1, 0, none⟩ (.slice (some ⟨G1, 0, none⟩) l1.length l1.length) (by simp; omega)).g1
  have hw1 : Below w.heap.size w (w1.setCell ⟨w.heap.size + 1 + 1, 0, none⟩ (.slice (some ⟨G1, 0, none⟩) l1.length l1.length)) := (below_over hwW hb1).setCell (p := ⟨w.heap.size + 1 + 1, 0, none⟩) (by simp; omega) _
  have O2 : Hid (Cells (w1.setCell ⟨w.heap.size + 1 + 1, 0, none⟩ (.slice (some ⟨G1, 0, none⟩) l1.length l1.length)) (w.heap.size + 1 + 1) [.slice (some ⟨G1, 0, none⟩) l1.length l1.length, .slice none 0 0]) := O1.s0 _
  have R2 : Hid (Cells (w1.setCell ⟨w.heap.size + 1 + 1, 0, none⟩ (.slice (some ⟨G1, 0, none⟩) l1.length l1.length)) (w.heap.size + 1) [.slice none 0 0, .slice none 0 0]) := (C1.out.on hb1).far _ _ (by simp)
  have hz1 := HZ.out
  have HG1 : Hid (w.heap.size + 1 + 1 + 1 ≤ G1 ∧ G1 < (w1.setCell ⟨w.heap.size + 1 + 1, 0, none⟩ (.slice (some ⟨G1, 0, none⟩) l1.length l1.length)).heap.size) := ⟨by omega, by have := r1.1; simpa using this⟩
  have HT1 : Hid (TR (w1.setCell ⟨w.heap.size + 1 + 1, 0, none⟩ (.slice (some ⟨G1, 0, none⟩) l1.length l1.length)) G1 l1) := VR.far r1 (by show w.heap.size + 1 + 1 ≠ G1; omega) _
  clear r1 hb1 O1 hG1 hz1 C0 C1 C2
  go_wp2_with fail
  generalize (w1.setCell ⟨w.heap.size + 1 + 1, 0, none⟩ (.slice (some ⟨G1, 0, none⟩) l1.length l1.length)) = w2 at *
  refine (toStrs a2 c2 l2 h2 w2 (HK2.out.on (Keep.of hw1))).mono ?_
  rintro e w3 ⟨rfl, r3, hb3⟩
  obtain ⟨G2, hG2⟩ : ∃ G, G = w2.heap.size := ⟨_, rfl⟩
  rw [← hG2] at r3
  rw [← hG2]
  have hzz := HG1.out
  rw [← hG2] at hzz
  have O3 := O2.out.on hb3
  have R3 := R2.out.on hb3
  obtain ⟨o3, p3⟩ := O3.g1
  have O4 := O3.s1 (.slice (some ⟨G2, 0, none⟩) l2.length l2.length)
  have R4 := R3.far ⟨w.heap.size + 1 + 1, 1, none⟩ (.slice (some ⟨G2, 0, none⟩) l2.length l2.length) (by simp)
  have R5 := (R4.s0 (.slice (some ⟨G1, 0, none⟩) l1.length l1.length)).s1 (.slice (some ⟨G2, 0, none⟩) l2.length l2.length)
  obtain ⟨i0, _⟩ := O4.g0
  obtain ⟨i1, _⟩ := O4.g1
  obtain ⟨r0, q0⟩ := R4.g0
  obtain ⟨r1, q1⟩ := R4.g1
  obtain ⟨e0, _⟩ := R5.g0
  obtain ⟨e1, _⟩ := R5.g1
  have HB3 : Hid (Below w.heap.size w w3) := below_over hw1 hb3
  have HGA : Hid (TR w3 G1 l1) := HT1.out.on hb3
  have HGB : Hid (TR w3 G2 l2) := r3
  have HZ3 : Hid (w.heap.size + 1 + 1 + 1 ≤ G1 ∧ G1 < G2) := hzz
  clear O3 O4 R3 R4 R5 r3 hb3 hG2 hzz hw1 HG1 HT1 O2 R2
  go_wp2
  refine bodyPost_ret (v := .agg #[.slice (some ⟨G1, 0, none⟩) l1.length l1.length, .slice (some ⟨G2, 0, none⟩) l2.length l2.length]) (by simp [results, Try.results25, go_sem, e0, e1]) rfl ?_
  have hz := HZ3.out
  have hbb := ((HB3.out.setCell (p := ⟨w.heap.size + 1 + 1, 1, none⟩) (by simp; omega) (.slice (some ⟨G2, 0, none⟩) l2.length l2.length)).setCell (p := ⟨w.heap.size + 1, 0, none⟩) (by simp) (.slice (some ⟨G1, 0, none⟩) l1.length l1.length)).setCell (p := ⟨w.heap.size + 1, 1, none⟩) (by simp) (.slice (some ⟨G2, 0, none⟩) l2.length l2.length)
  refine ⟨G1, G2, rfl, ?_, ?_, by omega, hz.2, hbb⟩
  · exact VR.far (VR.far (VR.far HGA.out (by show w.heap.size + 1 + 1 ≠ G1; omega) _) (by show w.heap.size + 1 ≠ G1; omega) _) (by show w.heap.size + 1 ≠ G1; omega) _
  · exact VR.far (VR.far (VR.far HGB.out (by show w.heap.size + 1 + 1 ≠ G2; omega) _) (by show w.heap.size + 1 ≠ G2; omega) _) (by show w.heap.size + 1 ≠ G2; omega) _
set_option maxHeartbeats 1000000 in
theorem eqLabs (a1 a2 b1 b2 : Option Addr) (c1 c2 d1 d2 : Nat) (l1 l2 : List ByteArray) (h1 : l1.length ≤ 1048576) (h2 : l2.length ≤ 1048576) (w : World) (k1 : ST 0 w (.slice a1 l1.length c1) l1) (k2 : ST 0 w (.slice a2 l2.length c2) l2) (m1 : ST 0 w (.slice b1 l1.length d1) l1) (m2 : ST 0 w (.slice b2 l2.length d2) l2) :
    Calls Try.prog 26 #[.agg #[.slice a1 l1.length c1, .slice a2 l2.length c2], .agg #[.slice b1 l1.length d1, .slice b2 l2.length d2]] w fun e w' => e = .returned (.bool true) ∧ Below w.heap.size w w' := by
  obtain ⟨W, hW⟩ : ∃ W, W = (w.alloc (.cells #[.slice a1 l1.length c1, .slice a2 l2.length c2] 29)).alloc (.cells #[.slice b1 l1.length d1, .slice b2 l2.length d2] 29) := ⟨_, rfl⟩
  have hwW : Below w.heap.size w W := by rw [hW]; exact ((Below.refl _ _).alloc (Nat.le_refl _) _).alloc (by simp) _
  have C0 : Hid (Cells W w.heap.size [.slice a1 l1.length c1, .slice a2 l2.length c2]) := by show Cells _ _ _; rw [hW]; exact (Cells.new w _ rfl _ _).alloc _
  have C1 : Hid (Cells W (w.heap.size + 1) [.slice b1 l1.length d1, .slice b2 l2.length d2]) := by show Cells _ _ _; rw [hW]; exact Cells.new (w.alloc _) _ (by simp) _ _
  have K1 : Hid (ST 0 W (.slice a1 l1.length c1) l1) := k1.on (Keep.of hwW)
  have K2 : Hid (ST 0 W (.slice a2 l2.length c2) l2) := k2.on (Keep.of hwW)
  have M1 : Hid (ST 0 W (.slice b1 l1.length d1) l1) := m1.on (Keep.of hwW)
  have M2 : Hid (ST 0 W (.slice b2 l2.length d2) l2) := m2.on (Keep.of hwW)
  clear k1 k2 m1 m2
  go_enter Try.func26, Try.ntmps26
  go_wp2_with fail
  rw [← hW]
  clear hW
  refine (eqStrs a1 b1 c1 d1 l1 h1 _ K1.out M1.out).mono ?_
  rintro e w1 ⟨rfl, hb1⟩
  obtain ⟨i0, _⟩ := (C0.out.on hb1).g1
  obtain ⟨i1, _⟩ := (C1.out.on hb1).g1
  have HW1 : Hid (Below w.heap.size w w1) := below_over hwW hb1
  have K3 : Hid (ST 0 w1 (.slice a2 l2.length c2) l2) := K2.out.on (Keep.of hb1)
  have M3 : Hid (ST 0 w1 (.slice b2 l2.length d2) l2) := M2.out.on (Keep.of hb1)
  clear hb1 K1 M1 K2 M2 C0 C1
  go_wp2_with fail
  refine (eqStrs a2 b2 c2 d2 l2 h2 _ K3.out M3.out).mono ?_
  rintro e w2 ⟨rfl, hb2⟩
  go_wp2
  go_ret
  exact ⟨rfl, below_over HW1.out hb2⟩
end Pg
end Go.Proofs.Ytbachkjhmenhfaa

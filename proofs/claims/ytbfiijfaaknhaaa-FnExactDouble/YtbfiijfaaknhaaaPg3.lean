/- Contracts of the laws' own copying of programs. -/
import Derived.Test.YtbfiijfaaknhaaaGr0
import Derived.Test.YtbfiijfaaknhaaaPg2
namespace Go.Proofs.Ytbfiijfaaknhaaa
namespace Pg
open Go.ChangeShapes Go.WideShapes Go.ChangeAt Go.RowKit St

theorem toInts' (a : Option Addr) (cap : Nat) (l : List Int) (hl : l.length ≤ 1048576) (w : World) (hr : SI false 0 w (.slice a l.length cap) l) :
    Calls Try.prog 74 #[.slice a l.length cap] w fun e w' => ∃ v, e = .returned v ∧ SI true w.heap.size w' v l ∧ Below w.heap.size w w' :=
  (toInts a cap l hl w (SI.rows hr)).mono fun _ _ ⟨h1, h2, h3, h4, h5⟩ => ⟨_, h1, SI.row (Nat.le_refl _) h4 h2 h3, h5⟩
theorem toRow' (a : Option Addr) (cap : Nat) (l : List Tx.Ins) (hl : l.length ≤ 1048576) (w : World) (hr : SC 0 w (.slice a l.length cap) l) :
    Calls Try.prog 92 #[.slice a l.length cap] w fun e w' => ∃ v, e = .returned v ∧ CS w.heap.size w' v l ∧ Below w.heap.size w w' :=
  (toRowS a cap l hl w (SC.rows hr)).mono fun _ _ ⟨h1, h2, h3, h4, h5⟩ => ⟨_, h1, ⟨_, _, rfl, Nat.le_refl _, h4, h2, h3⟩, h5⟩

set_option maxRecDepth 100000 in
set_option maxHeartbeats 1000000 in
theorem toMethod (m : Meth) (aa ac : Option Addr) (ca cc : Nat) (h1 : m.args.length ≤ 1048576) (h2 : m.code.length ≤ 1048576) (w : World) (hi : SI false 0 w (.slice aa m.args.length ca) m.args) (hc : SC 0 w (.slice ac m.code.length cc) m.code) :
    Calls Try.prog 85 #[.agg #[.int .i64 m.name, .slice aa m.args.length ca, .int .i64 m.gives, .slice ac m.code.length cc]] w fun e w' => ∃ va vc, e = .returned (.agg #[.int .i64 m.name, va, .int .i64 m.gives, vc]) ∧ MV front w.heap.size w' va vc m ∧ Below w.heap.size w w' := by
  have HI : Hid (SI false 0 w (.slice aa m.args.length ca) m.args) := hi
  have HC : Hid (SC 0 w (.slice ac m.code.length cc) m.code) := hc
  clear hi hc
  go_enter Try.func85, Try.ntmps85
  go_wp2_with fail
  refine (toInts' aa ca m.args h1 _ ?_).mono ?_
  · exact SI.on HI.out (Keep.of (by go_grown))
  rintro e w1 ⟨va, rfl, hi1, hb1⟩
  obtain ⟨a1, c1, rfl⟩ := hi1.form
  have hw1 : Below w.heap.size w w1 := below_over (by go_grown) hb1
  have A1 : Hid (Cells w1 w.heap.size [.int .i64 m.name, .slice aa m.args.length ca, .int .i64 m.gives, .slice ac m.code.length cc]) := by
    show Cells _ _ _
    refine Cells.on ?_ hb1
    exact ((Cells.new w _ rfl _ _).alloc _).alloc _
  have R1 : Hid (Cells w1 (w.heap.size + 1) [.int .i64 0, .slice none 0 0, .int .i64 0, .slice none 0 0]) := by
    show Cells _ _ _
    refine Cells.on ?_ hb1
    exact (Cells.new (w.alloc _) _ (by simp) _ _).alloc _
  have O1 : Hid (Cells w1 (w.heap.size + 1 + 1) [.int .i64 m.name, .slice none 0 0, .int .i64 0, .slice none 0 0]) := by
    show Cells _ _ _
    refine Cells.on ?_ hb1
    exact Cells.new ((w.alloc _).alloc _) _ (by simp) _ _
  have HV1 : Hid (SI true (w.heap.size + 1 + 1 + 1) w1 (.slice a1 m.args.length c1) m.args) := SI.weak hi1 (by simp)
  have hz1 : w.heap.size + 1 + 1 + 1 ≤ w1.heap.size := by have := hb1.size; simpa using this
  clear hi1 hb1
  generalize hs : w.heap.size = s at *
  have HSS : Hid (w.heap.size = s) := hs
  clear hs
  obtain ⟨b2, _⟩ := A1.out.g2
  obtain ⟨o1, p1⟩ := O1.out.g1
  obtain ⟨o2, p2⟩ := O1.out.g2
  have n21 : ∀ i, (⟨s + 1 + 1, i, none⟩ : Addr).block ≠ s + 1 := fun i => by show s + 1 + 1 ≠ s + 1; omega
  have n20 : ∀ i, (⟨s + 1 + 1, i, none⟩ : Addr).block ≠ s := fun i => by show s + 1 + 1 ≠ s; omega
  have N21 : Hid (∀ i, (⟨s + 1 + 1, i, none⟩ : Addr).block ≠ s + 1) := n21
  have N20 : Hid (∀ i, (⟨s + 1 + 1, i, none⟩ : Addr).block ≠ s) := n20
  clear n21 n20
  have a3 := (((A1.out.far ⟨s + 1 + 1, 1, none⟩ (.slice a1 m.args.length c1) (N20.out 0)).far ⟨s + 1 + 1, 2, none⟩ (.int .i64 m.gives) (N20.out 0)).g3).1
  have O2 : Hid (Cells ((w1.setCell ⟨s + 1 + 1, 1, none⟩ (.slice a1 m.args.length c1)).setCell ⟨s + 1 + 1, 2, none⟩ (.int .i64 m.gives)) (s + 1 + 1) [.int .i64 m.name, (.slice a1 m.args.length c1), .int .i64 m.gives, .slice none 0 0]) := (O1.out.s1 (.slice a1 m.args.length c1)).s2 (.int .i64 m.gives)
  have R2 : Hid (Cells ((w1.setCell ⟨s + 1 + 1, 1, none⟩ (.slice a1 m.args.length c1)).setCell ⟨s + 1 + 1, 2, none⟩ (.int .i64 m.gives)) (s + 1) [.int .i64 0, .slice none 0 0, .int .i64 0, .slice none 0 0]) := (R1.out.far ⟨s + 1 + 1, 1, none⟩ (.slice a1 m.args.length c1) (N21.out 0)).far ⟨s + 1 + 1, 2, none⟩ (.int .i64 m.gives) (N21.out 0)
  have hw2 : Below s w ((w1.setCell ⟨s + 1 + 1, 1, none⟩ (.slice a1 m.args.length c1)).setCell ⟨s + 1 + 1, 2, none⟩ (.int .i64 m.gives)) := (hw1.setCell (p := ⟨s + 1 + 1, 1, none⟩) (by simp; omega) _).setCell (p := ⟨s + 1 + 1, 2, none⟩) (by simp; omega) _
  have hk2 : Keep (s + 1 + 1 + 1) w1 ((w1.setCell ⟨s + 1 + 1, 1, none⟩ (.slice a1 m.args.length c1)).setCell ⟨s + 1 + 1, 2, none⟩ (.int .i64 m.gives)) := (Keep.set w1 (p := ⟨s + 1 + 1, 1, none⟩) (by simp) (.slice a1 m.args.length c1)).trans (Keep.set _ (p := ⟨s + 1 + 1, 2, none⟩) (by simp) _)
  have HV2 : Hid (SI true (s + 1 + 1 + 1) ((w1.setCell ⟨s + 1 + 1, 1, none⟩ (.slice a1 m.args.length c1)).setCell ⟨s + 1 + 1, 2, none⟩ (.int .i64 m.gives)) (.slice a1 m.args.length c1) m.args) := SI.on HV1.out hk2
  have hz2 := Nat.le_trans hz1 hk2.size
  have HK2 : Hid (Below s w ((w1.setCell ⟨s + 1 + 1, 1, none⟩ (.slice a1 m.args.length c1)).setCell ⟨s + 1 + 1, 2, none⟩ (.int .i64 m.gives))) := hw2
  clear hk2 HV1 hw1 A1 R1 O1 hw2 hz1
  go_wp2_with fail
  generalize (w1.setCell ⟨s + 1 + 1, 1, none⟩ (.slice a1 m.args.length c1)).setCell ⟨s + 1 + 1, 2, none⟩ (.int .i64 m.gives) = w2 at *
  refine (toRow' ac cc m.code h2 _ (SC.on HC.out (Keep.of (by rw [HSS.out]; exact HK2.out)))).mono ?_
  rintro e w3 ⟨vc, rfl, hc3, hb3⟩
  obtain ⟨a2, c2, rfl⟩ := front.form hc3
  have O3 : Hid (Cells w3 (s + 1 + 1) [.int .i64 m.name, (.slice a1 m.args.length c1), .int .i64 m.gives, .slice none 0 0]) := O2.out.on hb3
  have R3 := R2.out.on hb3
  have HV3 : Hid (SI true (s + 1 + 1 + 1) w3 (.slice a1 m.args.length c1) m.args) := SI.on HV2.out (Keep.of hb3)
  have HC3 : Hid (CS (s + 1 + 1 + 1) w3 (.slice a2 m.code.length c2) m.code) := front.weak hc3 hz2
  have HW3 : Hid (Below s w w3) := HK2.out.trans (hb3.mono (by omega))
  clear hc3 hb3 b2 a3 o1 o2 p1 p2 O2 R2 HV2 HK2 hz2
  have O4 := O3.out.s3 (.slice a2 m.code.length c2)
  have R4 := R3.far ⟨s + 1 + 1, 3, none⟩ (.slice a2 m.code.length c2) (N21.out 0)
  have R5 := (((R4.s0 (.int .i64 m.name)).s1 (.slice a1 m.args.length c1)).s2 (.int .i64 m.gives)).s3 (.slice a2 m.code.length c2)
  obtain ⟨o3, p3⟩ := O3.out.g3
  obtain ⟨i0, _⟩ := O4.g0
  obtain ⟨i1, _⟩ := O4.g1
  obtain ⟨i2, _⟩ := O4.g2
  obtain ⟨i3, _⟩ := O4.g3
  obtain ⟨r0, q0⟩ := R4.g0
  obtain ⟨r1, q1⟩ := R4.g1
  obtain ⟨r2, q2⟩ := R4.g2
  obtain ⟨r3, q3⟩ := R4.g3
  obtain ⟨e0, _⟩ := R5.g0
  obtain ⟨e1, _⟩ := R5.g1
  obtain ⟨e2, _⟩ := R5.g2
  obtain ⟨e3, _⟩ := R5.g3
  clear O4 R4 R5 R3 O3
  go_wp2
  refine bodyPost_ret (v := .agg #[.int .i64 m.name, (.slice a1 m.args.length c1), .int .i64 m.gives, (.slice a2 m.code.length c2)]) (by simp [results, Try.results85, go_sem, e0, e1, e2, e3]) rfl ?_
  rw [HSS.out]
  have hk : ∀ (u : World) (j i : Nat) (x : Value), j < s + 1 + 1 + 1 → Keep (s + 1 + 1 + 1) u (u.setCell ⟨j, i, none⟩ x) := fun u j i x hj => Keep.set u (p := ⟨j, i, none⟩) hj x
  have hkk := ((((hk w3 (s + 1 + 1) 3 (.slice a2 m.code.length c2) (by omega)).trans (hk _ (s + 1) 0 (.int .i64 m.name) (by omega))).trans (hk _ (s + 1) 1 (.slice a1 m.args.length c1) (by omega))).trans (hk _ (s + 1) 2 (.int .i64 m.gives) (by omega))).trans (hk _ (s + 1) 3 (.slice a2 m.code.length c2) (by omega))
  have hbb := ((((HW3.out.setCell (p := ⟨s + 1 + 1, 3, none⟩) (by simp; omega) (.slice a2 m.code.length c2)).setCell (p := ⟨s + 1, 0, none⟩) (by simp) (.int .i64 m.name)).setCell (p := ⟨s + 1, 1, none⟩) (by simp) (.slice a1 m.args.length c1)).setCell (p := ⟨s + 1, 2, none⟩) (by simp) (.int .i64 m.gives)).setCell (p := ⟨s + 1, 3, none⟩) (by simp) (.slice a2 m.code.length c2)
  exact ⟨_, _, rfl, ⟨SI.weak (SI.on HV3.out hkk) (by omega), front.weak (front.on HC3.out hkk) (by omega)⟩, hbb⟩
end Pg
end Go.Proofs.Ytbfiijfaaknhaaa

/- Labels marked: what that leaves as it was. -/
import Derived.Test.YtbachkjhmenhfaaLb7
namespace Go.Proofs.Ytbachkjhmenhfaa
namespace Pg
open Go.ChangeShapes Go.WideShapes Go.ChangeAt Go.RowKit St

/-- What marking rows between two blocks leaves as it was. -/
structure MrB (B1 B2 : Nat) (u v : World) : Prop where
  os : v.os = u.os
  tape : v.tape = u.tape
  output : v.output = u.output
  size : u.heap.size ≤ v.heap.size
  far : ∀ k, k < u.heap.size → (k < B1 ∨ B2 ≤ k) → v.heap[k]? = u.heap[k]?
theorem MrT.b {g B1 B2 : Nat} {u v : World} (h : MrT g u v) (h1 : B1 ≤ g) (h2 : g < B2) : MrB B1 B2 u v := ⟨h.os, h.tape, h.output, h.size, fun k hk hf => h.far k hk (by omega)⟩
theorem MrB.of {B1 B2 : Nat} {u v : World} (h : Below u.heap.size u v) : MrB B1 B2 u v := ⟨h.os, h.tape, h.output, h.size, fun k hk _ => h.block k hk⟩
theorem MrB.trans {B1 B2 : Nat} {u v w : World} (h : MrB B1 B2 u v) (k : MrB B1 B2 v w) : MrB B1 B2 u w := ⟨k.os.trans h.os, k.tape.trans h.tape, k.output.trans h.output, Nat.le_trans h.size k.size, fun i hi hf => (k.far i (Nat.lt_of_lt_of_le hi h.size) hf).trans (h.far i hi hf)⟩
theorem MrB.below {B1 B2 B : Nat} {u v : World} (h : MrB B1 B2 u v) (hB : B ≤ B1) (hu : B ≤ u.heap.size) : Below B u v := ⟨h.os, h.tape, h.output, h.size, fun k hk => h.far k (by omega) (by omega)⟩
theorem MrB.irow {B1 B2 g' o : Nat} {u v : World} {l : List Int} (h : MrB B1 B2 u v) (hne : g' < B1 ∨ B2 ≤ g') (hr : IRow u g' o l) : IRow v g' o l := fun j x hj => (World.cell?_of_block (w := u) (h.far g' (cell_lt (hr j x hj)) hne)).trans (hr j x hj)
theorem MrB.room {B1 B2 g' n : Nat} {u v : World} (h : MrB B1 B2 u v) (hne : g' < B1 ∨ B2 ≤ g') (hr : Room u g' n) : Room v g' n := fun i hi => by
  obtain ⟨⟨x, hx⟩, hf⟩ := hr i hi
  have l : g' < u.heap.size := cell_lt hx
  exact ⟨⟨x, (World.cell?_of_block (w := u) (h.far g' l hne)).trans hx⟩, (World.frozen?_of_block (w := u) (h.far g' l hne)).trans hf⟩
theorem MrB.vr {B1 B2 g' n : Nat} {u v : World} {f : Nat → Value} (h : MrB B1 B2 u v) (hne : g' < B1 ∨ B2 ≤ g') (hr : VR u g' n f) : VR v g' n f :=
  ⟨Nat.lt_of_lt_of_le hr.1 h.size, fun k hk => ⟨(World.cell?_of_block (w := u) (h.far g' hr.1 hne)).trans (hr.2 k hk).1, (World.frozen?_of_block (w := u) (h.far g' hr.1 hne)).trans (hr.2 k hk).2⟩⟩

theorem MrT.cells {g k : Nat} {u v : World} {vs : List Value} (h : MrT g u v) (hne : k ≠ g) (hc : Cells u k vs) : Cells v k vs := fun i x hx => by
  obtain ⟨h1, h2⟩ := hc i x hx
  have l : k < u.heap.size := cell_lt h1
  exact ⟨(World.cell?_of_block (w := u) (h.far k l hne)).trans h1, (World.frozen?_of_block (w := u) (h.far k l hne)).trans h2⟩
theorem MrB.cells {B1 B2 k : Nat} {u v : World} {vs : List Value} (h : MrB B1 B2 u v) (hne : k < B1 ∨ B2 ≤ k) (hc : Cells u k vs) : Cells v k vs := fun i x hx => by
  obtain ⟨h1, h2⟩ := hc i x hx
  have l : k < u.heap.size := cell_lt h1
  exact ⟨(World.cell?_of_block (w := u) (h.far k l hne)).trans h1, (World.frozen?_of_block (w := u) (h.far k l hne)).trans h2⟩
set_option maxHeartbeats 1000000 in
theorem markLabs (B1 B2 g1 g2 n1 n2 c1 c2 m : Nat) (hB1 : B1 ≤ g1) (hg : g1 < g2) (hB2 : g2 < B2) (hn1 : n1 ≤ 1048576) (hn2 : n2 ≤ 1048576) (hm : m ≤ 1000) (f1 f2 : Nat → Value) (w : World) (h1 : VR w g1 n1 f1) (h2 : VR w g2 n2 f2) :
    Calls Try.prog 31 #[.agg #[.slice (some ⟨g1, 0, none⟩) n1 c1, .slice (some ⟨g2, 0, none⟩) n2 c2], .int .i64 m] w fun e w' => e = .returned (.int .i64 ((m + n1 + n2 : Nat) : Int)) ∧ MrB B1 B2 w w' := by
  obtain ⟨W, hW⟩ : ∃ W, W = w.alloc (.cells #[.slice (some ⟨g1, 0, none⟩) n1 c1, .slice (some ⟨g2, 0, none⟩) n2 c2] 29) := ⟨_, rfl⟩
  have hwW : Below w.heap.size w W := by rw [hW]; exact (Below.refl _ _).alloc (Nat.le_refl _) _
  have L0 : Hid (Cells W w.heap.size [.slice (some ⟨g1, 0, none⟩) n1 c1, .slice (some ⟨g2, 0, none⟩) n2 c2]) := by show Cells _ _ _; rw [hW]; exact Cells.new w _ rfl _ _
  have H1 : Hid (VR W g1 n1 f1) := h1.on hwW
  have H2 : Hid (VR W g2 n2 f2) := h2.on hwW
  have hg1 := h1.1
  have hg2 := h2.1
  clear h1 h2
  go_enter Try.func31, Try.ntmps31
  go_wp2_with fail
  rw [← hW]
  clear hW
  refine (markStrs g1 c1 n1 m hn1 (by omega) f1 _ H1.out).mono ?_
  rintro e w1 ⟨rfl, hm1⟩
  have HM1 : Hid (MrT g1 W w1) := hm1
  have H3 : Hid (VR w1 g2 n2 f2) := hm1.vr (by omega) H2.out
  obtain ⟨i0, _⟩ := (hm1.cells (k := w.heap.size) (by omega) L0.out).g1
  clear hm1 L0 H1 H2
  go_wp2_with fail
  refine (markStrs g2 c2 n2 (m + n1) hn2 (by omega) f2 _ H3.out).mono ?_
  rintro e w2 ⟨rfl, hm2⟩
  have HM2 : Hid (MrT g2 w1 w2) := hm2
  clear hm2
  go_wp2
  go_ret
  exact ⟨rfl, ((MrB.of hwW).trans (HM1.out.b hB1 (by omega))).trans (HM2.out.b (by omega) hB2)⟩
end Pg
end Go.Proofs.Ytbachkjhmenhfaa

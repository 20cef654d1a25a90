/- The specification's Needed. -/
import Derived.Test.YtinanjjhkddikaaGreatJRx6
import Derived.Test.YtinanjjhkddikaaGreatJPm2
namespace Go.Proofs.YtinanjjhkddikaaGreat
namespace Pg
open Go.ChangeShapes Go.WideShapes Go.ChangeAt Go.RowKit St Wd

set_option maxRecDepth 100000 in
set_option maxHeartbeats 2000000 in
theorem specNeeded_at (B : Nat) (p : Prg) (a : Option Addr) (cap : Nat) (hsp : SmallP p) (w : World) (hp : SK front B w (.slice a p.length cap) p) :
    Calls Tryz.prog 18 #[.agg #[.slice a p.length cap]] w fun e w' => ∃ x, e = .returned x ∧ LstB w.heap.size w' x (ndL p) ∧ Below w.heap.size w w' := by
  obtain ⟨W, hW⟩ : ∃ W, W = w.alloc (.cells #[.slice a p.length cap] 30) := ⟨_, rfl⟩
  have hwW : Below w.heap.size w W := by rw [hW]; exact (Below.refl _ _).alloc (Nat.le_refl _) _
  have P0 : Hid (Cells W w.heap.size [.slice a p.length cap]) := by rw [hW]; exact Cells.new w _ rfl _ _
  have HP : Hid (SK front B w (.slice a p.length cap) p) := hp
  have HSP : Hid (SmallP p) := hsp
  clear hp hsp
  go_enter Tryz.func18, Tryz.ntmps18
  have p0 := P0.out.g0.1
  go_upto_region 1 with fail
  rw [← hW]
  clear hW
  go_wp2_with fail
  refine (specProgramOk B p a cap HSP.out W (SK.on HP.out (Keep.of hwW))).mono ?_
  rintro e w1 ⟨rfl, hb1⟩
  have hw1 : Below w.heap.size w w1 := below_over hwW hb1
  clear p0
  have p0 := (P0.out.on hb1).g0.1
  cases hok : okP p
  · have HE : Hid (ndL p = []) := by show _ = _; simp [ndL, hok]
    clear hok
    go_wp2
    go_ret
    exact ⟨_, rfl, by rw [HE.out]; exact lstB_empty hw1.size _, hw1.alloc hw1.size _⟩
  · have HE : Hid (ndL p = risL (ndB p) 6) := by show _ = _; simp [ndL, hok]
    have HOK : Hid (okP p = true) := hok
    have hpl := (okP_len hok).1
    obtain ⟨bp, po, rfl, _⟩ := HP.out.get (k := 0) (by omega)
    clear hok
    go_wp2_with fail
    refine (l14Needed_at B p bp po cap HOK.out HSP.out w1 (SK.on HP.out (Keep.of hw1))).mono ?_
    rintro e w2 ⟨v1, rfl, h1, hb2⟩
    have H1 : Hid (LstB w1.heap.size w2 v1 (risL (ndB p) 6)) := h1
    have hw2 : Below w.heap.size w w2 := below_over hw1 hb2
    have hz1 := hw1.size
    clear h1 hb2
    go_wp2
    go_ret
    refine ⟨_, rfl, ?_, hw2⟩
    rw [HE.out]
    obtain ⟨g, c, hv, hc, hg, hl, hi⟩ := H1.out
    exact ⟨g, c, hv, hc, by omega, hl, hi⟩
end Pg
end Go.Proofs.YtinanjjhkddikaaGreat

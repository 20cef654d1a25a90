/- Contracts of the program's isDouble and Double. -/
import Derived.Test.YtdomclicgajihaaJDb1
import Derived.Deep.RegionWith
import Derived.BigQuiet
import Derived.Lib.QuietBelow
namespace Go.Proofs.Ytdomclicgajihaa
namespace Pg
open Go.ChangeShapes Go.WideShapes Go.ChangeAt Go.RowKit St

set_option maxRecDepth 100000 in
set_option maxHeartbeats 2000000 in
theorem isDouble (B B' : Nat) (p : Prg) (a : Option Addr) (cap : Nat) (t : Nat) (c : Cls) (hc : p[t]? = some c) (hok : okP p = true) (hsp : SmallP p) (own : Meth) (hol : own.code.length ≤ 1048576) (x1 x2 : Option Addr) (n1 y1 y2 : Nat) (w : World) (hp : SK front B w (.slice a p.length cap) p) (hx : CS B' w (.slice x2 own.code.length y2) own.code) :
    Calls Try.prog 47 #[.agg #[.slice a p.length cap], .int .i64 (t : Int), .agg #[.int .i64 own.name, .slice x1 n1 y1, .int .i64 own.gives, .slice x2 own.code.length y2]] w fun e w' => e = .returned (.bool (dblB p c own)) ∧ Below w.heap.size w w' := by
  obtain ⟨hjp, hcj⟩ := List.getElem?_eq_some_iff.1 hc
  have h6 := (okP_len hok).2
  have HSU : Hid (SupOk p p.length) := okP_sup hok
  have HP : Hid (SK front B w (.slice a p.length cap) p) := hp
  have HSP : Hid (SmallP p) := hsp
  obtain ⟨gx, y2', hxe, _, hgx, hxr, _⟩ := hx
  have HX : Hid (Row w gx 0 own.code) := hxr
  injection hxe with hx1 _ hx2
  subst hx1 hx2
  obtain ⟨W, hW⟩ : ∃ W, W = (w.alloc (.cells #[.slice a p.length cap] 28)).alloc (.cells #[.int .i64 own.name, .slice x1 n1 y1, .int .i64 own.gives, .slice (some ⟨gx, 0, none⟩) own.code.length y2] 52) := ⟨_, rfl⟩
  have hwW : Below w.heap.size w W := by rw [hW]; exact ((Below.refl _ _).alloc (Nat.le_refl _) _).alloc (by simp) _
  have P0 : Hid (Cells W w.heap.size [.slice a p.length cap]) := by rw [hW]; exact (Cells.new w _ rfl _ _).alloc _
  have M0 : Hid (Cells W (w.heap.size + 1) [.int .i64 own.name, .slice x1 n1 y1, .int .i64 own.gives, .slice (some ⟨gx, 0, none⟩) own.code.length y2]) := by rw [hW]; exact Cells.new (w.alloc _) _ (by simp) _ _
  clear hsp hxr hok
  obtain ⟨b, o, rfl, _, vf, vm, d0, d1, d2, hcv⟩ := hp.get hjp
  have hsu := HSU.out t _ hjp (List.getElem?_eq_getElem hjp)
  rw [hcj] at d0 hsu
  clear hp hcv d1 d2 hc hcj
  have hti : (t : Int) < (p.length : Int) := by omega
  have ht0 : (0 : Int) ≤ (t : Int) := by omega
  have hs1 := hsu.1
  have hs2 := hsu.2
  have cL : ∀ d os, Calls Try.prog 68 #[.agg #[.slice (some ⟨b, o, none⟩) p.length cap], .int .i64 c.super, .int .i64 own.name] (Sort.grow (redrawn W d) os) fun e w'' => e = .returned (.int .i64 (selF p c.super own.name)) ∧ ∃ q : Regrown, w'' = Sort.grow (redrawn W q.d) q.os := fun d os =>
    (selectedFrom B p (some ⟨b, o, none⟩) cap c.super own.name hs1 (by omega) HSP.out h6 HSU.out _ (SK.on HP.out (Keep.of (below_over hwW (below_regrown W d os))))).regrown_of
  have e0 := cell_regrown ((hwW.cell (cell_lt d0)).trans d0)
  have e1 := cell_regrown P0.out.g0.1
  have e2 := cell_regrown M0.out.g0.1
  go_enter Try.func47, Try.ntmps47
  go_upto_region 1 with fail
  rw [← hW]
  clear hW
  refine wp_region_quiet_below (by kernel_rfl) (by kernel_rfl) ?_
  repeat (go_big_quiet_step ((go_at_call 68; exact cL _ _)))
  refine wpQuiet_nil ?_
  intro _ hw'
  obtain ⟨⟨dq, osq⟩, hw''⟩ := hw'
  subst hw''
  have hWZ : Below W.heap.size W (Sort.grow (redrawn W dq) osq) := below_regrown W dq osq
  generalize Sort.grow (redrawn W dq) osq = wr at *
  clear e0 e1 e2 cL d0 hsu
  have hwr : Below w.heap.size w wr := below_over hwW hWZ
  have PR : Hid (Cells wr w.heap.size [.slice (some ⟨b, o, none⟩) p.length cap]) := P0.out.on hWZ
  have MR : Hid (Cells wr (w.heap.size + 1) [.int .i64 own.name, .slice x1 n1 y1, .int .i64 own.gives, .slice (some ⟨gx, 0, none⟩) own.code.length y2]) := M0.out.on hWZ
  rcases selF_or p c.super own.name with h | ⟨s, d, x, hs, hse, hd, hox⟩
  · have HN : Hid (dblB p c own = false) := dblB_no h
    rw [h]
    clear h
    go_wp2
    go_ret
    exact ⟨retB HN.out.symm, hwr⟩
  · have HN : Hid (dblB p c own = decide (own.code = x.code)) := dblB_at hse hd hox
    rw [hse]
    obtain ⟨_, hds⟩ := List.getElem?_eq_some_iff.1 hd
    have hsi : (s : Int) < (p.length : Int) := by omega
    have hs0 : (0 : Int) ≤ (s : Int) := by omega
    have hne : ((s : Int) == -1) = false := by simp
    clear hse hs1 hs2
    obtain ⟨b', o', hbb, _, vf, vm, d0, d1, d2, hcv⟩ := HP.out.get hs
    rw [hds] at d0 hcv
    obtain ⟨rfl, rfl⟩ : b = b' ∧ o = o' := by injection hbb with h; injection h with h1 h2; exact ⟨h1, h2⟩
    obtain ⟨z1, t1, rfl⟩ := hcv.1.form
    obtain ⟨z2, t2, rfl⟩ := hcv.2.form
    have hsm := HSP.out.2 d (List.mem_of_getElem? hd)
    have hsl := hsm.2.1
    have hxs := (hsm.2.2 x (own_mem hox)).2
    have HSM : Hid (SM front B w (.slice z2 d.meths.length t2) d.meths) := hcv.2
    have lb : b < w.heap.size := cell_lt d0
    have c0 := (hwr.cell lb).trans d0
    have c1 := (hwr.cell lb).trans d1
    have c2 := (hwr.cell lb).trans d2
    have HOX : Hid (ownF d own.name = some x) := hox
    clear hcv hsm d0 d1 d2 hds hd hox hbb
    obtain ⟨p0, _⟩ := PR.out.g0
    obtain ⟨m0, _⟩ := MR.out.g0
    have lbr : b < wr.heap.size := Nat.lt_of_lt_of_le lb hwr.size
    have hbA : Below wr.heap.size wr (wr.alloc (.cells #[.int .i64 0, .slice none 0 0, .int .i64 0, .slice none 0 0] 52)) := (Below.refl _ _).alloc (Nat.le_refl _) _
    have ls : w.heap.size < wr.heap.size := cell_lt p0
    have ls1 : w.heap.size + 1 < wr.heap.size := cell_lt m0
    have p0a := (hbA.cell ls).trans p0
    have m0a := (hbA.cell ls1).trans m0
    have c0a := (hbA.cell lbr).trans c0
    have c1a := (hbA.cell lbr).trans c1
    have c2a := (hbA.cell lbr).trans c2
    clear hbA
    go_upto_region 4 with fail
    go_region_with (go_at_call 42; refine (ownMethodR B d z1 z2 t2 d.fields.length t1 own.name hsl w _ ?hx HSM.out).mono ?_; (case hx => first | exact hwr.drew | exact (hwr.alloc hwr.size _).drew); rintro e w1 ⟨n, f1, l1, g1, gv, f2, l2, g2, q, rfl, hor, hb1⟩; first | (have BX := Cells.on (Cells.newD wr [.int .i64 0, .slice none 0 0, .int .i64 0, .slice none 0 0] 52) hb1; obtain ⟨b0, e0⟩ := BX.g0; obtain ⟨b1, e1⟩ := BX.g1; obtain ⟨b2, e2⟩ := BX.g2; obtain ⟨b3, e3⟩ := BX.g3) | skip)
    all_goals
      first
      | (have hF : Below wr.heap.size wr (w1.alloc (.cells #[.int .i64 n, .slice f1 l1 g1, .int .i64 gv, .slice f2 l2 g2] 52)) := (below_over (Below.refl _ _).drew hb1).alloc (below_over (Below.refl _ _).drew hb1).size _
         have OX : Hid (Cells (w1.alloc (.cells #[.int .i64 n, .slice f1 l1 g1, .int .i64 gv, .slice f2 l2 g2] 52)) w1.heap.size [.int .i64 n, .slice f1 l1 g1, .int .i64 gv, .slice f2 l2 g2]) := Cells.new w1 _ rfl _ _
         clear hb1
         generalize w1.alloc (.cells #[.int .i64 n, .slice f1 l1 g1, .int .i64 gv, .slice f2 l2 g2] 52) = wF at *)
      | (have hb1' : Below wr.heap.size wr w1 := below_over ((Below.refl _ _).alloc (Nat.le_refl _) _).drew hb1
         have OX : Hid (Cells ((((w1.setCell ⟨wr.heap.size, 0, none⟩ (.int .i64 n)).setCell ⟨wr.heap.size, 1, none⟩ (.slice f1 l1 g1)).setCell ⟨wr.heap.size, 2, none⟩ (.int .i64 gv)).setCell ⟨wr.heap.size, 3, none⟩ (.slice f2 l2 g2)) wr.heap.size [.int .i64 n, .slice f1 l1 g1, .int .i64 gv, .slice f2 l2 g2]) := (((BX.s0 _).s1 _).s2 _).s3 _
         have hF : Below wr.heap.size wr ((((w1.setCell ⟨wr.heap.size, 0, none⟩ (.int .i64 n)).setCell ⟨wr.heap.size, 1, none⟩ (.slice f1 l1 g1)).setCell ⟨wr.heap.size, 2, none⟩ (.int .i64 gv)).setCell ⟨wr.heap.size, 3, none⟩ (.slice f2 l2 g2)) := (((hb1'.setCell (p := ⟨wr.heap.size, 0, none⟩) (by simp) _).setCell (p := ⟨wr.heap.size, 1, none⟩) (by simp) _).setCell (p := ⟨wr.heap.size, 2, none⟩) (by simp) _).setCell (p := ⟨wr.heap.size, 3, none⟩) (by simp) _
         clear hb1 hb1' BX b0 b1 b2 b3 e0 e1 e2 e3
         generalize (((w1.setCell ⟨wr.heap.size, 0, none⟩ (.int .i64 n)).setCell ⟨wr.heap.size, 1, none⟩ (.slice f1 l1 g1)).setCell ⟨wr.heap.size, 2, none⟩ (.int .i64 gv)).setCell ⟨wr.heap.size, 3, none⟩ (.slice f2 l2 g2) = wF at *)
      have hwF : Below w.heap.size w wF := below_over hwr hF
      obtain ⟨o3, _⟩ := OX.out.g3
      obtain ⟨mF3, _⟩ := (MR.out.on hF).g3
      clear OX hF hwr p0 m0 p0a m0a c0a c1a c2a c0 c1 c2 PR MR ls ls1 lbr
      rcases hor.out with ⟨rfl, x', hox, rfl, rfl, rfl, rfl, hxv⟩ | ⟨rfl, hox⟩
      · obtain rfl : x = x' := by have := HOX.out; rw [hox] at this; simpa using this.symm
        obtain ⟨gy, cy, hye, _, _, hyr, _⟩ := hxv.2
        injection hye with hy1 _ hy2
        subst hy1 hy2
        have HY : Hid (Row w gy 0 x.code) := hyr
        clear hor hox hxv hyr HOX
        go_wp2_with fail
        refine (sameCode gx gy y2 g2 own.code x.code hol hxs _ (HX.out.on hwF) (HY.out.on hwF)).mono ?_
        rintro e w3 ⟨rfl, hb3⟩
        have hw3 : Below w.heap.size w w3 := below_over hwF hb3
        clear hb3 o3 mF3
        generalize decide (own.code = x.code) = q at *
        go_wp2
        go_ret
        exact ⟨retB HN.out.symm, hw3⟩
      · exact absurd (HOX.out.symm.trans hox) (by simp)
end Pg
end Go.Proofs.Ytdomclicgajihaa

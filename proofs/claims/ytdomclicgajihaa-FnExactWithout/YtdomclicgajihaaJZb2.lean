/- Contracts of the other side's Double. -/
import Derived.Test.YtdomclicgajihaaJDb1
import Derived.Deep.RegionWith
import Derived.BigQuiet
import Derived.Lib.QuietBelow
import Derived.Test.YtdomclicgajihaaJZc4
import Derived.Test.YtdomclicgajihaaJLo0
namespace Go.Proofs.Ytdomclicgajihaa
namespace Pg
open Go.ChangeShapes Go.WideShapes Go.ChangeAt Go.RowKit St

set_option maxRecDepth 100000 in
set_option maxHeartbeats 4000000 in
theorem l13Double (B : Nat) (p : Prg) (a : Option Addr) (cap : Nat) (t : Nat) (c : Cls) (hc : p[t]? = some c) (name : Int) (hok : okP p = true) (hsp : SmallP p) (w : World) (hp : SK front B w (.slice a p.length cap) p) :
    Calls Try.prog 39 #[.agg #[.slice a p.length cap], .int .i64 (t : Int), .int .i64 name] w fun e w' => e = .returned (.bool (dblN p c name)) ∧ Below w.heap.size w w' := by
  obtain ⟨hjp, hcj⟩ := List.getElem?_eq_some_iff.1 hc
  have h6 := (okP_len hok).2
  have HSU : Hid (SupOk p p.length) := okP_sup hok
  have HP : Hid (SK front B w (.slice a p.length cap) p) := hp
  have HSP : Hid (SmallP p) := hsp
  obtain ⟨W, hW⟩ : ∃ W, W = w.alloc (.cells #[.slice a p.length cap] 28) := ⟨_, rfl⟩
  have hwW : Below w.heap.size w W := by rw [hW]; exact (Below.refl _ _).alloc (Nat.le_refl _) _
  have P0 : Hid (Cells W w.heap.size [.slice a p.length cap]) := by rw [hW]; exact Cells.new w _ rfl _ _
  obtain ⟨b, o, rfl, _, vf, vm, d0, d1, d2, hcv⟩ := hp.get hjp
  have hsu := HSU.out t _ hjp (List.getElem?_eq_getElem hjp)
  rw [hcj] at d0 hcv hsu
  obtain ⟨z1, t1, rfl⟩ := hcv.1.form
  obtain ⟨z2, t2, rfl⟩ := hcv.2.form
  have hsc := hsp.2 c (List.mem_of_getElem? hc)
  have hsl := hsc.2.1
  have HSMM : Hid (∀ m ∈ c.meths, SmallM m) := hsc.2.2
  have HSM : Hid (SM front B w (.slice z2 c.meths.length t2) c.meths) := hcv.2
  have lb : b < w.heap.size := cell_lt d0
  have c0 := (hwW.cell lb).trans d0
  have c1 := (hwW.cell lb).trans d1
  have c2 := (hwW.cell lb).trans d2
  have HC2 : Hid (w.cell? ⟨b, o + t * 3 + 2, none⟩ = some (.slice z2 c.meths.length t2)) := d2
  have HC0 : Hid (w.cell? ⟨b, o + t * 3, none⟩ = some (.int .i64 c.super)) := d0
  have hs1 := hsu.1
  have hs2 := hsu.2
  have hti : (t : Int) < (p.length : Int) := by omega
  have ht0 : (0 : Int) ≤ (t : Int) := by omega
  obtain ⟨p0, _⟩ := P0.out.g0
  clear hp hcv hsc d0 d1 d2 hc hcj hsp hsu hok
  go_enter Try.func39, Try.ntmps39
  go_upto_region 1 with fail
  rw [← hW]
  clear hW
  go_wp2_with fail
  refine (l4Own B c z1 z2 t2 c.fields.length t1 name hsl _ (SM.on HSM.out (Keep.of hwW))).mono ?_
  rintro e w1 ⟨rfl, hb1⟩
  have hw1 : Below w.heap.size w w1 := below_over hwW hb1
  have P1 : Hid (Cells w1 w.heap.size [.slice (some ⟨b, o, none⟩) p.length cap]) := P0.out.on hb1
  clear hb1 c0 c1 c2 p0 P0
  rcases ownI_cases c name with ⟨hI, hF⟩ | ⟨kk, m, hkk, hx, hI, hF⟩
  · have HN : Hid ((dblN p c name) = false) := by show _ = _; unfold dblN; rw [hF]
    rw [hI]
    clear hI hF
    go_wp2
    go_ret
    exact ⟨retB HN.out.symm, hw1⟩
  · have hnm := ownF_name hF
    have HN : Hid ((dblN p c name) = dblB p c m) := by show _ = _; unfold dblN; rw [hF]
    have hml := (HSMM.out m (own_mem hF)).2
    obtain ⟨bm, om, rfl, _, va, vc, g0, g1, g2, g3, hmv⟩ := HSM.out.get hkk
    obtain ⟨_, hxk⟩ := List.getElem?_eq_some_iff.1 hx
    rw [hxk] at g0 hmv
    obtain ⟨gx, cx, rfl, _, _, hxr, _⟩ := hmv.2
    have HX : Hid (Row w gx 0 m.code) := hxr
    have lm : bm < w.heap.size := cell_lt g3
    rw [hI]
    have hki : (kk : Int) < (c.meths.length : Int) := by omega
    clear hI hF hx hxk hmv hxr g0 g1 g2
    have cL : ∀ d os, Calls Try.prog 61 #[.agg #[.slice (some ⟨b, o, none⟩) p.length cap], .int .i64 c.super, .int .i64 name] (Sort.grow (redrawn w1 d) os) fun e w'' => e = .returned (.int .i64 (selF p c.super name)) ∧ ∃ q : Regrown, w'' = Sort.grow (redrawn w1 q.d) q.os := fun d os =>
      (l5Selected B p (some ⟨b, o, none⟩) cap c.super name hs1 (by omega) HSP.out h6 HSU.out _ (SK.on HP.out (Keep.of (below_over hw1 (below_regrown w1 d os))))).regrown_of
    have e0 := cell_regrown ((hw1.cell lb).trans HC0.out)
    have e1 := cell_regrown P1.out.g0.1
    go_upto_region 4 with fail
    refine wp_region_quiet_below (by kernel_rfl) (by kernel_rfl) ?_
    repeat (go_big_quiet_step ((go_at_call 61; exact cL _ _)))
    refine wpQuiet_nil ?_
    intro _ hw'
    obtain ⟨⟨dq, osq⟩, hw''⟩ := hw'
    subst hw''
    have hWZ : Below w1.heap.size w1 (Sort.grow (redrawn w1 dq) osq) := below_regrown w1 dq osq
    generalize Sort.grow (redrawn w1 dq) osq = w2 at *
    clear e0 e1 cL
    have hw2 : Below w.heap.size w w2 := below_over hw1 hWZ
    have P2 : Hid (Cells w2 w.heap.size [.slice (some ⟨b, o, none⟩) p.length cap]) := P1.out.on hWZ
    clear hWZ P1 hw1
    have HSE := selF_or p c.super name
    rcases HSE with h | ⟨s, d, x, hs, hse, hd, hox⟩
    · have HM : Hid ((dblN p c name) = false) := by show _ = _; rw [HN.out]; exact dblB_no (by rw [hnm]; exact h)
      rw [h]
      clear h
      go_upto_region 5 with fail
      refine wp_region_quiet_below (by kernel_rfl) (by kernel_rfl) ?_
      repeat (go_big_quiet_step (fail))
      refine wpQuiet_nil ?_
      intro _ hw'
      obtain ⟨⟨dq, osq⟩, hw''⟩ := hw'
      subst hw''
      have hw3 : Below w.heap.size w (Sort.grow (redrawn w2 dq) osq) := below_over hw2 (below_regrown w2 dq osq)
      generalize Sort.grow (redrawn w2 dq) osq = w3 at *
      go_wp2
      go_ret
      exact ⟨retB HM.out.symm, hw3⟩
    · have HM : Hid ((dblN p c name) = decide (m.code = x.code)) := by show _ = _; rw [HN.out]; exact dblB_at (by rw [hnm]; exact hse) hd (by rw [hnm]; exact hox)
      rw [hse]
      obtain ⟨_, hds⟩ := List.getElem?_eq_some_iff.1 hd
      have hsi : (s : Int) < (p.length : Int) := by omega
      have hs0 : (0 : Int) ≤ (s : Int) := by omega
      clear hse HN hnm
      obtain ⟨b', o', hbb, _, vf, vm, d0, d1, d2, hcv⟩ := HP.out.get hs
      rw [hds] at d0 hcv
      obtain ⟨rfl, rfl⟩ : b = b' ∧ o = o' := by injection hbb with h; injection h with h1 h2; exact ⟨h1, h2⟩
      obtain ⟨u1, v1, rfl⟩ := hcv.1.form
      obtain ⟨u2, v2, rfl⟩ := hcv.2.form
      have hsm := HSP.out.2 d (List.mem_of_getElem? hd)
      have hsl2 := hsm.2.1
      have hxs := (hsm.2.2 x (own_mem hox)).2
      have HSD : Hid (SM front B w (.slice u2 d.meths.length v2) d.meths) := hcv.2
      obtain ⟨ki, x', hki2, hxx, hI2, hF2⟩ : ∃ k m, k < d.meths.length ∧ d.meths[k]? = some m ∧ ownI d name = (k : Int) ∧ ownF d name = some m := by
        rcases ownI_cases d name with ⟨_, h2⟩ | h2
        · rw [hox] at h2; simp at h2
        · exact h2
      obtain rfl : x = x' := by rw [hox] at hF2; simpa using hF2
      obtain ⟨bn, on', rfl, _, va2, vc2, k0, k1, k2, k3, hmv2⟩ := HSD.out.get hki2
      obtain ⟨_, hxk2⟩ := List.getElem?_eq_some_iff.1 hxx
      rw [hxk2] at k0 hmv2
      obtain ⟨gy, cy, rfl, _, _, hyr, _⟩ := hmv2.2
      have HY : Hid (Row w gy 0 x.code) := hyr
      have ln : bn < w.heap.size := cell_lt k3
      have hkn : (ki : Int) < (d.meths.length : Int) := by omega
      have f0 := cell_regrown P2.out.g0.1
      have f1 := cell_regrown ((hw2.cell lb).trans HC2.out)
      have f2 := cell_regrown ((hw2.cell lm).trans g3)
      have f3 := cell_regrown ((hw2.cell lb).trans d0)
      have f4 := cell_regrown ((hw2.cell lb).trans d1)
      have f5 := cell_regrown ((hw2.cell lb).trans d2)
      have f6 := cell_regrown ((hw2.cell ln).trans k3)
      have q1 : ∀ dd os, Calls Try.prog 35 #[.agg #[.int .i64 d.super, .slice u1 d.fields.length v1, .slice (some ⟨bn, on', none⟩) d.meths.length v2], .int .i64 name] (Sort.grow (redrawn w2 dd) os) fun e w'' => e = .returned (.int .i64 (ki : Int)) ∧ ∃ q : Regrown, w'' = Sort.grow (redrawn w2 q.d) q.os := fun dd os => by
        have h := l4Own B d u1 (some ⟨bn, on', none⟩) v2 d.fields.length v1 name hsl2 (Sort.grow (redrawn w2 dd) os) (SM.on HSD.out (Keep.of (below_over hw2 (below_regrown w2 dd os))))
        rw [hI2] at h
        exact Calls.regrown_of h
      have q2 : ∀ dd os, Calls Try.prog 62 #[.slice (some ⟨gx, 0, none⟩) m.code.length cx, .slice (some ⟨gy, 0, none⟩) x.code.length cy] (Sort.grow (redrawn w2 dd) os) fun e w'' => e = .returned (.bool (decide (m.code = x.code))) ∧ ∃ q : Regrown, w'' = Sort.grow (redrawn w2 q.d) q.os := fun dd os =>
        (l13Same gx gy cx cy m.code x.code hml hxs _ (HX.out.on (below_over hw2 (below_regrown w2 dd os))) (HY.out.on (below_over hw2 (below_regrown w2 dd os)))).regrown_of
      clear hcv hsm d0 d1 d2 hds hd hox hbb hI2 hF2 hxx hmv2 hyr k0 k1 k2 k3 hxk2 g3
      generalize decide (m.code = x.code) = q at *
      go_upto_region 5 with fail
      refine wp_region_quiet_below (by kernel_rfl) (by kernel_rfl) ?_
      repeat (go_big_quiet_step (fail))
      go_big_quiet_step ((go_at_call 35; exact q1 _ _))
      repeat (go_big_quiet_step (fail))
      go_big_quiet_step ((go_at_call 62; exact q2 _ _))
      repeat (go_big_quiet_step (fail))
      refine wpQuiet_nil ?_
      intro _ hw'
      obtain ⟨⟨dq, osq⟩, hw''⟩ := hw'
      subst hw''
      have hw3 : Below w.heap.size w (Sort.grow (redrawn w2 dq) osq) := below_over hw2 (below_regrown w2 dq osq)
      generalize Sort.grow (redrawn w2 dq) osq = w3 at *
      clear f0 f1 f2 f3 f4 f5 f6 q1 q2
      go_wp2
      go_ret
      exact ⟨retB HM.out.symm, hw3⟩
end Pg
end Go.Proofs.Ytdomclicgajihaa

/- Contracts of both sides' Doubles. -/
namespace Go.Proofs.Ytdomclicgajihaa
namespace Pg
open Go.ChangeShapes Go.WideShapes Go.ChangeAt Go.RowKit St

/-- A row of methods of which the cells alone are told. -/
def QR (g : Nat) (fl : List Meth) (u : World) : Prop := ∀ j m, fl[j]? = some m → ∃ a1 n1 c1 a2 n2 c2, u.cell? ⟨g, j * 4, none⟩ = some (.int .i64 m.name) ∧ u.cell? ⟨g, j * 4 + 1, none⟩ = some (.slice a1 n1 c1) ∧ u.cell? ⟨g, j * 4 + 2, none⟩ = some (.int .i64 m.gives) ∧ u.cell? ⟨g, j * 4 + 3, none⟩ = some (.slice a2 n2 c2)
theorem QR.blk {g : Nat} {fl : List Meth} {u w : World} (h : QR g fl u) (hb : w.heap[g]? = u.heap[g]?) : QR g fl w := fun j m hm => by
  obtain ⟨a1, n1, c1, a2, n2, c2, h0, h1, h2, h3⟩ := h j m hm
  exact ⟨a1, n1, c1, a2, n2, c2, (World.cell?_of_block (w := u) hb).trans h0, (World.cell?_of_block (w := u) hb).trans h1, (World.cell?_of_block (w := u) hb).trans h2, (World.cell?_of_block (w := u) hb).trans h3⟩
theorem QR.of {B g c : Nat} {fl : List Meth} {u : World} (h : SM front B u (.slice (some ⟨g, 0, none⟩) fl.length c) fl) : QR g fl u := fun j m hm => by
  obtain ⟨hj, rfl⟩ := List.getElem?_eq_some_iff.1 hm
  obtain ⟨b, o, he, _, va, vc, h0, h1, h2, h3, hv⟩ := h.get hj
  injection he with he
  injection he with e1 e2
  subst e1 e2
  obtain ⟨x1, y1, rfl⟩ := hv.1.form
  obtain ⟨x2, y2, rfl⟩ := front.form hv.2
  simp only [Nat.zero_add] at h0 h1 h2 h3
  exact ⟨_, _, _, _, _, _, h0, h1, h2, h3⟩
theorem dbl_take {p : Prg} {i : Nat} {c : Cls} (hc : p[i]? = some c) : dblT p (i + 1) = dblT p i ++ (c.meths.filter (dblB p c)).map fun m => (i : Int) * 20 + m.name := dblT_succ hc
theorem map_take {α β : Type} (f : α → β) (l : List α) {k : Nat} (hk : k < l.length) : (l.take (k + 1)).map f = (l.take k).map f ++ [f l[k]] := by
  rw [List.take_succ_eq_append_getElem hk, List.map_append]
  rfl
/-- In a right program the names of a class's methods rise, so each is found by its name. -/
theorem names_lt {p : Prg} (hok : okP p = true) {i : Nat} {c : Cls} (hc : p[i]? = some c) {k : Nat} {x y : Meth} (hx : c.meths[k]? = some x) (hy : c.meths[k + 1]? = some y) : x.name < y.name := by
  obtain ⟨hi, _⟩ := List.getElem?_eq_some_iff.1 hc
  have h1 := okP_at hok hi
  rw [okAt_of hc] at h1
  have h2 := okC_meth h1 (List.getElem?_eq_some_iff.1 hy).1
  unfold okK at h2
  rw [hy] at h2
  simp only [Bool.and_eq_true] at h2
  have h3 := h2.1.2
  rw [hx] at h3
  simpa using h3
theorem names_far {p : Prg} (hok : okP p = true) {i : Nat} {c : Cls} (hc : p[i]? = some c) : ∀ (d k : Nat) (x y : Meth), c.meths[k]? = some x → c.meths[k + 1 + d]? = some y → x.name < y.name
  | 0, k, x, y, hx, hy => names_lt hok hc hx hy
  | d + 1, k, x, y, hx, hy => by
    have hl := (List.getElem?_eq_some_iff.1 hy).1
    have h1 := names_far hok hc d k x _ hx (List.getElem?_eq_getElem (show k + 1 + d < c.meths.length by omega))
    have h2 := names_lt hok hc (List.getElem?_eq_getElem (show k + 1 + d < c.meths.length by omega)) hy
    omega
theorem own_self {p : Prg} (hok : okP p = true) {i : Nat} {c : Cls} (hc : p[i]? = some c) {m : Meth} (hm : m ∈ c.meths) : ownF c m.name = some m := by
  obtain ⟨k, hk, rfl⟩ := List.getElem_of_mem hm
  refine find_at (k := k) (fun j hj y hy => ?_) (List.getElem?_eq_getElem hk) rfl
  have := names_far hok hc (k - j - 1) j y _ hy (by rw [show j + 1 + (k - j - 1) = k by omega]; exact List.getElem?_eq_getElem hk)
  omega
theorem dblN_of {p : Prg} (hok : okP p = true) {i : Nat} {c : Cls} (hc : p[i]? = some c) {m : Meth} (hm : m ∈ c.meths) : dblN p c m.name = dblB p c m := by
  unfold dblN
  rw [own_self hok hc hm]
set_option maxHeartbeats 400000 in
theorem numberOf (a b : Int) (ha : 0 ≤ a) (ha6 : a ≤ 6) (hb : 0 ≤ b) (hb19 : b ≤ 19) (w : World) :
    Calls Try.prog 55 #[.int .i64 a, .int .i64 b] w fun e w' => e = .returned (.int .i64 (a * 20 + b)) ∧ w' = w := by
  go_enter Try.func55, Try.ntmps55
  go_wp2
  go_ret
  exact ⟨rfl, rfl⟩
set_option maxRecDepth 100000 in
set_option maxHeartbeats 4000000 in
theorem l13Doubles (B : Nat) (p : Prg) (a : Option Addr) (cap : Nat) (hok : okP p = true) (hsp : SmallP p) (w : World) (hp : SK front B w (.slice a p.length cap) p) :
    Calls Try.prog 20 #[.agg #[.slice a p.length cap]] w fun e w' => ∃ v, e = .returned v ∧ Grow w.heap.size w' v (dblT p p.length) ∧ Below w.heap.size w w' := by
  obtain ⟨i0, hif, hz0, hz1, hz2⟩ := info_parts infoN
  have HSP : Hid (SmallP p) := hsp
  have HP : Hid (SK front B w (.slice a p.length cap) p) := hp
  have HOK : Hid (okP p = true) := hok
  have h6 := (okP_len hok).2
  clear hp hsp hok
  obtain ⟨W, hW⟩ : ∃ W, W = w.alloc (.cells #[.slice a p.length cap] 28) := ⟨_, rfl⟩
  have hwW : Below w.heap.size w W := by rw [hW]; exact (Below.refl _ _).alloc (Nat.le_refl _) _
  have P0 : Hid (Cells W w.heap.size [.slice a p.length cap]) := by rw [hW]; exact Cells.new w _ rfl _ _
  have HZ : Hid (W.heap.size = w.heap.size + 1) := by show _ = _; rw [hW]; simp
  obtain ⟨V, hV⟩ : ∃ V, V = W.alloc (.cells #[] 2) := ⟨_, rfl⟩
  have hWV : Below W.heap.size W V := by rw [hV]; exact (Below.refl _ _).alloc (Nat.le_refl _) _
  have G0 : Hid (Grow W.heap.size V (.slice (some ⟨W.heap.size, 0, none⟩) ([] : List Int).length 0) []) := by rw [hV]; exact grow_start W
  go_enter Try.func20, Try.ntmps20
  go_wp2
  rw [← HZ.out, ← hW, ← hV]
  clear hW hV
  go_loopw [3, 4] (fun y x wr => ∃ (i : Nat) (v0 : Value), i ≤ p.length ∧ x = .int .i64 (i : Int) ∧ v0 = y ∧ Hid (Grow W.heap.size wr v0 (dblT p i)) ∧ Below W.heap.size W wr) (fun _ x _ => p.length - (intOf x).toNat)
  case atStart => exact ⟨0, _, Nat.zero_le _, rfl, rfl, G0.out, hWV⟩
  case round =>
    clear G0 hWV
    obtain ⟨i, v0, hi, rfl, rfl, hg, hb⟩ := hrel
    have hwr : Below w.heap.size w wr := hwW.trans (hb.mono hwW.size)
    obtain ⟨g, cp, rfl⟩ := hg.out.form
    have hln := dblT_len HOK.out i hi
    obtain ⟨pw, _⟩ := (cells_lowP P0.out hb (by have := HZ.out; omega)).g0
    by_cases hlt : i < p.length
    · have hii : (i : Int) < (p.length : Int) := by omega
      have hi0 : (0 : Int) ≤ (i : Int) := by omega
      obtain ⟨b, o, rfl, _, vf, vm, d0, d1, d2, hcv⟩ := HP.out.get hlt
      obtain ⟨z1, t1, rfl⟩ := hcv.1.form
      obtain ⟨z2, t2, rfl⟩ := hcv.2.form
      have l0 : b < w.heap.size := cell_lt d0
      have HPI : Hid (p[i]? = some p[i]) := List.getElem?_eq_getElem hlt
      have HSM : Hid (SM front B w (.slice z2 p[i].meths.length t2) p[i].meths) := hcv.2
      have hsl := (HSP.out.2 _ (List.getElem_mem hlt)).2.1
      have HST : Hid (dblT p (i + 1) = dblT p i ++ (p[i].meths.filter (dblB p p[i])).map fun m => (i : Int) * 20 + m.name) := dbl_take HPI.out
      have HNM : Hid (∀ m ∈ p[i].meths, 0 ≤ m.name ∧ m.name ≤ 19) := fun m hm => name_bd HOK.out HPI.out hm
      have HON : Hid (∀ m ∈ p[i].meths, dblN p p[i] m.name = dblB p p[i] m) := fun m hm => dblN_of HOK.out HPI.out hm
      have hfew := meths_few HOK.out HPI.out
      have HD2 : Hid (w.cell? ⟨b, o + i * 3 + 2, none⟩ = some (.slice z2 p[i].meths.length t2)) := d2
      clear hcv d0 d1 d2
      generalize p[i] = c at *
      clear hwr
      go_wp2
      go_loopw [3, 5] (fun y x wr => ∃ (k : Nat) (v1 : Value), k ≤ c.meths.length ∧ x = .int .i64 (k : Int) ∧ v1 = y ∧ Hid (Grow W.heap.size wr v1 (dblT p i ++ ((c.meths.take k).filter (dblB p c)).map fun m => (i : Int) * 20 + m.name)) ∧ Below W.heap.size W wr) (fun _ x _ => c.meths.length - (intOf x).toNat)
      case atStart => exact ⟨0, _, Nat.zero_le _, rfl, rfl, by show Grow _ _ _ _; rw [List.take_zero, List.filter_nil, List.map_nil, List.append_nil]; exact hg.out, hb⟩
      case round =>
        clear hg hb pw
        obtain ⟨k, v1, hk, rfl, rfl, hg2, hb2⟩ := hrel
        have hwr : Below w.heap.size w wr := hwW.trans (hb2.mono hwW.size)
        obtain ⟨g2, cp2, rfl⟩ := hg2.out.form
        have hgl2 := (hg2.out.1.lt g2 rfl)
        have PR : Hid (Cells wr w.heap.size [.slice (some ⟨b, o, none⟩) p.length cap]) := cells_lowP P0.out hb2 (by have := HZ.out; omega)
        obtain ⟨pw, _⟩ := PR.out.g0
        have c2 := (hwr.cell l0).trans HD2.out
        have hln2 : (dblT p i ++ ((c.meths.take k).filter (dblB p c)).map fun m => (i : Int) * 20 + m.name).length ≤ 24 := by
          have h1 := List.length_filter_le (dblB p c) (c.meths.take k)
          rw [List.length_take] at h1
          rw [List.length_append, List.length_map]; omega
        by_cases hlk : k < c.meths.length
        · have hki : (k : Int) < (c.meths.length : Int) := by omega
          obtain ⟨bm, om, rfl, _, va, vc, m0, m1, m2, m3, hmv⟩ := HSM.out.get hlk
          have lm : bm < w.heap.size := cell_lt m0
          have n0 := (hwr.cell lm).trans m0
          have HTK : Hid (((c.meths.take (k + 1)).filter (dblB p c)).map (fun m => (i : Int) * 20 + m.name) = ((c.meths.take k).filter (dblB p c)).map (fun m => (i : Int) * 20 + m.name) ++ if dblB p c c.meths[k] then [(i : Int) * 20 + c.meths[k].name] else []) := by
            show _ = _
            rw [List.take_succ_eq_append_getElem hlk, List.filter_append, List.filter_cons, List.map_append]
            simp only [List.filter_nil]
            cases dblB p c c.meths[k] <;> rfl
          have hnb := HNM.out c.meths[k] (List.getElem_mem hlk)
          have HDB : Hid (dblN p c c.meths[k].name = dblB p c c.meths[k]) := HON.out _ (List.getElem_mem hlk)
          clear hmv m0 m1 m2 m3
          generalize c.meths[k] = m at *
          have hn0 := hnb.1
          have hn1 := hnb.2
          clear hnb
          generalize hPRE : (dblT p i ++ ((c.meths.take k).filter (dblB p c)).map fun m => (i : Int) * 20 + m.name) = pre at *
          have HPRE : Hid (dblT p i ++ ((c.meths.take k).filter (dblB p c)).map (fun m => (i : Int) * 20 + m.name) = pre) := hPRE
          clear hPRE
          go_wp2_with fail
          refine (l13Double B p (some ⟨b, o, none⟩) cap i c HPI.out m.name HOK.out HSP.out wr (SK.on HP.out (Keep.of hwr))).mono ?_
          rintro e V2 ⟨rfl, hV2⟩
          have hbV2 : Below W.heap.size W V2 := hb2.trans (hV2.mono hb2.size)
          have HG2 : Hid (Grow W.heap.size V2 (.slice (some ⟨g2, 0, none⟩) pre.length cp2) pre) := hg2.out.on hV2
          have hg23 : g2 < V2.heap.size := Nat.lt_of_lt_of_le hgl2.2 hV2.size
          rw [HDB.out]
          clear hg2 hb2 hV2 pw c2 n0 PR hwr
          cases hq : dblB p c m
          · have HG3 : Hid (Grow W.heap.size V2 (.slice (some ⟨g2, 0, none⟩) pre.length cp2) (dblT p i ++ ((c.meths.take (k + 1)).filter (dblB p c)).map fun m => (i : Int) * 20 + m.name)) := by
              show Grow _ _ _ _
              rw [HTK.out, hq, ← List.append_assoc, HPRE.out]
              simp only [Bool.false_eq_true, if_false, List.append_nil]
              exact HG2.out
            clear HG2 HTK HPRE hq HDB
            go_wp2
            go_roundw
            case rel => exact ⟨k + 1, _, by omega, by go_num, rfl, HG3.out, hbV2⟩
            case measure => simp [intOf]; omega
          · rw [hq] at HTK
            go_wp2_with (at_builtin; refine wpList_append_own _ rfl _ _ 34 rfl W.heap.size 2 i0 (.int .i64 0) 1 8 Try.underlying34 hif hz0 hz1 hz2 rfl (by decide) _ _ _ rfl (HG2.out.1.alloc _) ⟨V2.heap.size, 0, none⟩ 1 1 [.int .i64 ((i : Int) * 20 + m.name)] rfl rfl (cell_one_new _ _ _) (by simp [Value.oneCell']) (by unfold maxLen; omega) (by omega) (by have := hbV2.size; simp; omega) ?_)
            intro v3 w3 hown3 hgrow3 hnil3
            have hb3 : Below W.heap.size W w3 := (hbV2.alloc hbV2.size _).grown hgrow3 (by have := hbV2.size; simp; omega) (fun q hq => by simp [Value.ownBlock] at hq; subst hq; exact hgl2.1)
            have HG3 : Hid (Grow W.heap.size w3 v3 (dblT p i ++ ((c.meths.take (k + 1)).filter (dblB p c)).map fun m => (i : Int) * 20 + m.name)) := by
              show Grow _ _ _ _
              rw [HTK.out, ← List.append_assoc, HPRE.out]
              exact grow_next hown3 (fun h => by first | exact hnil3 h | exact absurd (hnil3.1 h).1 (by simp))
            clear hown3 hgrow3 hnil3 HG2 HTK HPRE hbV2 hgl2 hg23 hq HDB
            go_wp2
            go_roundw
            case rel => exact ⟨k + 1, v3, by omega, by go_num, rfl, HG3.out, hb3⟩
            case measure => simp [intOf]; omega
        · have hki : ¬ (k : Int) < (c.meths.length : Int) := by omega
          have HGN : Hid (Grow W.heap.size wr (.slice (some ⟨g2, 0, none⟩) (dblT p i ++ ((c.meths.take k).filter (dblB p c)).map fun m => (i : Int) * 20 + m.name).length cp2) (dblT p (i + 1))) := by
            have h := hg2.out
            have e : (dblT p i ++ ((c.meths.take k).filter (dblB p c)).map fun m => (i : Int) * 20 + m.name) = dblT p (i + 1) := by
              rw [HST.out, List.take_of_length_le (by omega)]
            rw [e] at h ⊢
            exact h
          clear hg2 HST
          generalize (dblT p i ++ ((c.meths.take k).filter (dblB p c)).map fun m => (i : Int) * 20 + m.name).length = nn at *
          go_wp2
          go_roundw
          case rel => exact ⟨i + 1, _, by omega, by go_num, rfl, HGN.out, hb2⟩
          case measure => simp [intOf]; omega
    · have hii : ¬ (i : Int) < (p.length : Int) := by omega
      obtain rfl : i = p.length := by omega
      have HG : Hid (Grow w.heap.size wr (.slice (some ⟨g, 0, none⟩) (dblT p p.length).length cp) (dblT p p.length)) := hg.out.base' (by have := HZ.out; omega)
      clear hg
      go_wp2
      go_ret
      exact ⟨_, rfl, HG.out, hwr⟩
end Pg
end Go.Proofs.Ytdomclicgajihaa

/- A program without some of its methods: what the specification goes through. -/
namespace Go.Proofs.Ytdomclicgajihaa
namespace Pg
open Go.ChangeShapes Go.WideShapes Go.ChangeAt Go.RowKit St

/-- A class without the methods of these numbers; a program. -/
def wo (L : List Int) (i : Nat) (c : Cls) : Cls := { c with meths := c.meths.filter fun m => !decide ((i : Int) * 20 + m.name ∈ L) }
def woP (L : List Int) (p : Prg) : Prg := p.mapIdx fun i c => wo L i c
/-- Nothing from B on has turned but block g. -/
def Bt (B g : Nat) (X u : World) : Prop := X.heap.size ≤ u.heap.size ∧ ∀ k, B ≤ k → k < X.heap.size → k ≠ g → u.heap[k]? = X.heap[k]?
theorem Bt.refl (B g : Nat) (X : World) : Bt B g X X := ⟨Nat.le_refl _, fun _ _ _ _ => rfl⟩
theorem Bt.after {B g : Nat} {X Y u : World} (h : Below X.heap.size X Y) (k : Bt B g Y u) : Bt B g X u :=
  ⟨Nat.le_trans h.size k.1, fun i h1 h2 h3 => (k.2 i h1 (Nat.lt_of_lt_of_le h2 h.size) h3).trans (h.block i h2)⟩
theorem Bt.behind {B g i : Nat} {X u : World} {v : Value} (k : Bt B g (X.setCell ⟨g, i, none⟩ v) u) : Bt B g X u :=
  ⟨by have := k.1; simpa using this, fun j h1 h2 h3 => (k.2 j h1 (by simpa using h2) h3).trans (zset_block X h3 v)⟩
theorem Bt.put {B g i : Nat} (X : World) (v : Value) : Bt B g X (X.setCell ⟨g, i, none⟩ v) := ⟨by simp, fun j _ _ h3 => zset_block X h3 v⟩
/-- The classes of a program that is being changed: the row in block g, what each holds elsewhere. -/
structure WO (B g : Nat) (X : World) (ls : List (Cls × Value × Value)) : Prop where
  lt : g < X.heap.size
  ge : B ≤ g
  cells : ∀ j x, ls[j]? = some x → X.cell? ⟨g, 0 + j * 3, none⟩ = some (.int .i64 x.1.super) ∧ X.cell? ⟨g, 0 + j * 3 + 1, none⟩ = some x.2.1 ∧ X.cell? ⟨g, 0 + j * 3 + 2, none⟩ = some x.2.2
  fr : ∀ j, j < ls.length * 3 → X.frozen? ⟨g, 0 + j, none⟩ = false
  but : ∀ x ∈ ls, ∀ u, Bt B g X u → CV front B u x.2.1 x.2.2 x.1
theorem WO.on {B g : Nat} {X Y : World} {ls : List (Cls × Value × Value)} (h : WO B g X ls) (hb : Below X.heap.size X Y) : WO B g Y ls := by
  refine ⟨Nat.lt_of_lt_of_le h.lt hb.size, h.ge, fun j x hx => ?_, fun j hj => ?_, fun x hx u hu => h.but x hx u (hu.after hb)⟩
  · obtain ⟨c0, c1, c2⟩ := h.cells j x hx
    exact ⟨(hb.cell h.lt).trans c0, (hb.cell h.lt).trans c1, (hb.cell h.lt).trans c2⟩
  · exact (hb.frozen (p := ⟨g, 0 + j, none⟩) h.lt).trans (h.fr j hj)
theorem WO.sk {B g : Nat} {X : World} {ls : List (Cls × Value × Value)} (h : WO B g X ls) (cap : Nat) : SK front B X (.slice (some ⟨g, 0, none⟩) ls.length cap) (ls.map (·.1)) := by
  refine ⟨some ⟨g, 0, none⟩, cap, by rw [List.length_map], fun _ e => by simp at e, fun hp => ⟨g, 0, rfl, h.ge, ⟨h.lt, fun _ j hj => h.fr j (by rwa [List.length_map] at hj)⟩, fun j m hj => ?_⟩⟩
  obtain ⟨x, hx⟩ : ∃ x, ls[j]? = some x := by
    rw [List.getElem?_map] at hj
    cases hq : ls[j]? with
    | none => rw [hq] at hj; simp at hj
    | some x => exact ⟨x, rfl⟩
  have hxm : x.1 = m := by rw [List.getElem?_map, hx] at hj; simpa using hj
  subst hxm
  obtain ⟨c0, c1, c2⟩ := h.cells j x hx
  exact ⟨x.2.1, x.2.2, c0, c1, c2, h.but x (List.mem_of_getElem? hx) X (Bt.refl _ _ _)⟩
theorem WO.put {B g : Nat} {X : World} {ls : List (Cls × Value × Value)} (h : WO B g X ls) {i : Nat} {x : Cls × Value × Value} (hi : ls[i]? = some x) {c' : Cls} {v1 : Value} (hs : c'.super = x.1.super) (hc : ∀ u, Bt B g X u → CV front B u x.2.1 v1 c') :
    WO B g (X.setCell ⟨g, 0 + i * 3 + 2, none⟩ v1) (ls.set i (c', x.2.1, v1)) := by
  obtain ⟨hil, hie⟩ := List.getElem?_eq_some_iff.1 hi
  refine ⟨by have := h.lt; simpa using this, h.ge, fun j y hy => ?_, fun j hj => ?_, fun y hy u hu => ?_⟩
  · by_cases hj : j = i
    · subst hj
      have he : y = (c', x.2.1, v1) := by rw [List.getElem?_set_self hil] at hy; simpa using hy.symm
      subst he
      obtain ⟨c0, c1, c2⟩ := h.cells j x hi
      exact ⟨(World.cell?_setCell_other _ _ _ _ (ne_off (by omega))).trans (by rw [c0, ← hs]), (World.cell?_setCell_other _ _ _ _ (ne_off (by omega))).trans c1, World.cell?_setCell_same _ _ _ c2⟩
    · have hy' : ls[j]? = some y := by rw [List.getElem?_set_ne (fun e => hj e.symm)] at hy; exact hy
      obtain ⟨c0, c1, c2⟩ := h.cells j y hy'
      exact ⟨(World.cell?_setCell_other _ _ _ _ (ne_off (by omega))).trans c0, (World.cell?_setCell_other _ _ _ _ (ne_off (by omega))).trans c1, (World.cell?_setCell_other _ _ _ _ (ne_off (by omega))).trans c2⟩
  · rw [List.length_set] at hj
    have := h.fr j hj
    simpa using this
  · rcases List.mem_or_eq_of_mem_set hy with hy | hy
    · exact h.but y hy u hu.behind
    · subst hy
      exact hc u hu.behind
theorem KQ.wo {B T : Nat} {w : World} {v : Value} {l : List (Cls × Value × Value)} (h : KQ QC B T w v l) (hl : 0 < l.length) : ∃ g cap, v = .slice (some ⟨g, 0, none⟩) l.length cap ∧ WO B g w l := by
  obtain ⟨hown, W, hd⟩ := h
  have hown' := hown
  obtain ⟨h0, ⟨hv, hn⟩ | ⟨g, cap, cur, hv, hB, hblk, hle, hmx, hsz, htk⟩⟩ := hown
  · omega
  · have hgw : g < w.heap.size := (Array.getElem?_eq_some_iff.1 hblk).1
    refine ⟨g, cap, hv, hgw, hB, fun j x hx => ?_, fun j hj => by simp [World.frozen?, hblk], fun x hx u hu => ?_⟩
    · obtain ⟨a0, a1, a2⟩ := flatK_at l j x hx
      have hcell : ∀ i u, (flatK l)[i]? = some u → w.cell? ⟨g, 0 + i, none⟩ = some u := fun i u hu => by
        have := World.ownsRow.cells hown' (g := g) (by rw [hv]; rfl) i u hu
        rwa [Go.WideShapes.add_plain] at this
      exact ⟨hcell _ _ a0, by have := hcell _ _ a1; rwa [show 0 + (j * 3 + 1) = 0 + j * 3 + 1 by omega] at this, by have := hcell _ _ a2; rwa [show 0 + (j * 3 + 2) = 0 + j * 3 + 2 by omega] at this⟩
    · obtain ⟨j, hj, rfl⟩ := List.getElem_of_mem hx
      obtain ⟨k1, _, _, k3, k4, _⟩ := hd j _ (List.getElem?_eq_getElem hj)
      have ho := k4 g (by rw [hv]; rfl)
      exact CV.weak (k3.2 u hu.1 (fun k a b => hu.2 k (by omega) (Nat.lt_of_lt_of_le b k3.1) (by omega))) k1
/-- A row of methods that stands whatever block g turns to is none of it. -/
theorem sm_off {B g : Nat} {X : World} {a : Option Addr} {n cap : Nat} {ms : List Meth} (h : ∀ u, Bt B g X u → SM front B u (.slice a n cap) ms) {k : Nat} (hk : k < ms.length) :
    ∃ b o va vc, a = some ⟨b, o, none⟩ ∧ b ≠ g ∧ b < X.heap.size ∧ X.cell? ⟨b, o + k * 4, none⟩ = some (.int .i64 ms[k].name) ∧ X.cell? ⟨b, o + k * 4 + 1, none⟩ = some va ∧ X.cell? ⟨b, o + k * 4 + 2, none⟩ = some (.int .i64 ms[k].gives) ∧ X.cell? ⟨b, o + k * 4 + 3, none⟩ = some vc ∧ ∀ u, Bt B g X u → MV front B u va vc ms[k] := by
  obtain ⟨b, o, rfl, hB, va, vc, h0, h1, h2, h3, h4⟩ := (h X (Bt.refl _ _ _)).get hk
  have hg : b ≠ g := by
    intro e
    subst e
    obtain ⟨b', o', he, _, va', vc', k0, _⟩ := (h (X.setCell ⟨b, o + k * 4, none⟩ (.bool true)) (Bt.put X _)).get hk
    injection he with he
    injection he with e1 e2
    subst e1 e2
    rw [World.cell?_setCell_same _ _ _ h0] at k0
    simp at k0
  have hl : b < X.heap.size := cell_lt h0
  refine ⟨b, o, va, vc, rfl, hg, hl, h0, h1, h2, h3, fun u hu => ?_⟩
  obtain ⟨b', o', he, _, va', vc', k0, k1, k2, k3, k4⟩ := (h u hu).get hk
  injection he with he
  injection he with e1 e2
  subst e1 e2
  have hbk := hu.2 b hB hl hg
  have e1 : va' = va := by
    have := (World.cell?_of_block (w := X) (a := ⟨b, o + k * 4 + 1, none⟩) hbk).symm.trans k1
    rw [h1] at this
    simpa using this.symm
  have e3 : vc' = vc := by
    have := (World.cell?_of_block (w := X) (a := ⟨b, o + k * 4 + 3, none⟩) hbk).symm.trans k3
    rw [h3] at this
    simpa using this.symm
  rw [← e1, ← e3]
  exact k4
end Pg
end Go.Proofs.Ytdomclicgajihaa

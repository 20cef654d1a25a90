/- Contracts of the other side's Double. -/
import Derived.Test.YtbfiijfaaknhaaaDb1
import Derived.Deep.RegionWith
import Derived.BigQuiet
import Derived.Lib.QuietBelow
namespace Go.Proofs.Ytbfiijfaaknhaaa
namespace Pg
open Go.ChangeShapes Go.WideShapes Go.ChangeAt Go.RowKit St

set_option maxRecDepth 100000 in
set_option maxHeartbeats 4000000 in
theorem l13Double (B : Nat) (p : Prg) (a : Option Addr) (cap : Nat) (t : Nat) (c : Cls) (hc : p[t]? = some c) (name : Int) (hok : okP p = true) (hsp : SmallP p) (w : World) (hp : SK front B w (.slice a p.length cap) p) :
    Calls Try.prog 39 #[.agg #[.slice a p.length cap], .int .i64 (t : Int), .int .i64 name] w fun e w' => e = .returned (.bool (dblN p c name)) ∧ Below w.heap.size w w' := by
  obtain ⟨hjp, hcj⟩ := List.getElem?_eq_some_iff.1 hc
  have h6 := (okP_len hok).2
  have HSU : Hid (SupOk p p.length) := okP_sup hok
  have HP : Hid (SK front B w (.slice a p.length cap) p) := hp
  have HSP : Hid (SmallP p) := hsp
  obtain ⟨W, hW⟩ : ∃ W, W = w.alloc (.cells #[.slice a p.length cap] 34) := ⟨_, rfl⟩
  have hwW : Below w.heap.size w W := by rw [hW]; exact (Below.refl _ _).alloc (Nat.le_refl _) _
  have P0 : Hid (Cells W w.heap.size [.slice a p.length cap]) := by rw [hW]; exact Cells.new w _ rfl _ _
  obtain ⟨b, o, rfl, _, vf, vm, d0, d1, d2, hcv⟩ := hp.get hjp
  have hsu := HSU.out t _ hjp (List.getElem?_eq_getElem hjp)
  rw [hcj] at d0 hcv hsu
  obtain ⟨z1, t1, rfl⟩ := hcv.1.form
  obtain ⟨z2, t2, rfl⟩ := hcv.2.form
  have hsc := hsp.2 c (List.mem_of_getElem? hc)
  have hsl := hsc.2.1
  have HSMM : Hid (∀ m ∈ c.meths, SmallM m) := hsc.2.2
  have HSM : Hid (SM front B w (.slice z2 c.meths.length t2) c.meths) := hcv.2
  have lb : b < w.heap.size := cell_lt d0
  have c0 := (hwW.cell lb).trans d0
  have c1 := (hwW.cell lb).trans d1
  have c2 := (hwW.cell lb).trans d2
  have HC2 : Hid (w.cell? ⟨b, o + t * 3 + 2, none⟩ = some (.slice z2 c.meths.length t2)) := d2
  have HC0 : Hid (w.cell? ⟨b, o + t * 3, none⟩ = some (.int .i64 c.super)) := d0
  have hs1 := hsu.1
  have hs2 := hsu.2
  have hti : (t : Int) < (p.length : Int) := by omega
  have ht0 : (0 : Int) ≤ (t : Int) := by omega
  obtain ⟨p0, _⟩ := P0.out.g0
  clear hp hcv hsc d0 d1 d2 hc hcj hsp hsu hok
  go_enter Try.func39, Try.ntmps39
  go_upto_region 1 with fail
  rw [← hW]
  clear hW
  go_wp2_with fail
  refine (l4Own B c z1 z2 t2 c.fields.length t1 name hsl _ (SM.on HSM.out (Keep.of hwW))).mono ?_
  rintro e w1 ⟨rfl, hb1⟩
  have hw1 : Below w.heap.size w w1 := below_over hwW hb1
  have P1 : Hid (Cells w1 w.heap.size [.slice (some ⟨b, o, none⟩) p.length cap]) := P0.out.on hb1
  clear hb1 c0 c1 c2 p0 P0
  rcases ownI_cases c name with ⟨hI, hF⟩ | ⟨kk, m, hkk, hx, hI, hF⟩
  · have HN : Hid ((dblN p c name) = false) := by show _ = _; unfold dblN; rw [hF]
    rw [hI]
    clear hI hF
    go_wp2
    go_ret
    exact ⟨retB HN.out.symm, hw1⟩
  · have hnm := ownF_name hF
    have HN : Hid ((dblN p c name) = dblB p c m) := by show _ = _; unfold dblN; rw [hF]
    have hml := (HSMM.out m (own_mem hF)).2
    obtain ⟨bm, om, rfl, _, va, vc, g0, g1, g2, g3, hmv⟩ := HSM.out.get hkk
    obtain ⟨_, hxk⟩ := List.getElem?_eq_some_iff.1 hx
    rw [hxk] at g0 hmv
    obtain ⟨gx, cx, rfl, _, _, hxr, _⟩ := hmv.2
    have HX : Hid (Row w gx 0 m.code) := hxr
    have lm : bm < w.heap.size := cell_lt g3
    rw [hI]
    have hki : (kk : Int) < (c.meths.length : Int) := by omega
    clear hI hF hx hxk hmv hxr g0 g1 g2
    have cL : ∀ d os, Calls Try.prog 59 #[.agg #[.slice (some ⟨b, o, none⟩) p.length cap], .int .i64 c.super, .int .i64 name] (Sort.grow (redrawn w1 d) os) fun e w'' => e = .returned (.int .i64 (selF p c.super name)) ∧ ∃ q : Regrown, w'' = Sort.grow (redrawn w1 q.d) q.os := fun d os =>
      (l5Selected B p (some ⟨b, o, none⟩) cap c.super name hs1 (by omega) HSP.out h6 HSU.out _ (SK.on HP.out (Keep.of (below_over hw1 (below_regrown w1 d os))))).regrown_of
    have e0 := cell_regrown ((hw1.cell lb).trans HC0.out)
    have e1 := cell_regrown P1.out.g0.1
    go_upto_region 4 with fail
    refine wp_region_quiet_below (by kernel_rfl) (by kernel_rfl) ?_
    repeat (go_big_quiet_step ((go_at_call 59; exact cL _ _)))
    refine wpQuiet_nil ?_
    intro _ hw'
    obtain ⟨⟨dq, osq⟩, hw''⟩ := hw'
    subst hw''
    have hWZ : Below w1.heap.size w1 (Sort.grow (redrawn w1 dq) osq) := below_regrown w1 dq osq
    generalize Sort.grow (redrawn w1 dq) osq = w2 at *
    clear e0 e1 cL
    have hw2 : Below w.heap.size w w2 := below_over hw1 hWZ
    have P2 : Hid (Cells w2 w.heap.size [.slice (some ⟨b, o, none⟩) p.length cap]) := P1.out.on hWZ
    clear hWZ P1 hw1
    have HSE := selF_or p c.super name
    rcases HSE with h | ⟨s, d, x, hs, hse, hd, hox⟩
    · have HM : Hid ((dblN p c name) = false) := by show _ = _; rw [HN.out]; exact dblB_no (by rw [hnm]; exact h)
      rw [h]
      clear h
      go_upto_region 5 with fail
      refine wp_region_quiet_below (by kernel_rfl) (by kernel_rfl) ?_
      repeat (go_big_quiet_step (fail))
      refine wpQuiet_nil ?_
      intro _ hw'
      obtain ⟨⟨dq, osq⟩, hw''⟩ := hw'
      subst hw''
      have hw3 : Below w.heap.size w (Sort.grow (redrawn w2 dq) osq) := below_over hw2 (below_regrown w2 dq osq)
      generalize Sort.grow (redrawn w2 dq) osq = w3 at *
      go_wp2
      go_ret
      exact ⟨retB HM.out.symm, hw3⟩
    · have HM : Hid ((dblN p c name) = decide (m.code = x.code)) := by show _ = _; rw [HN.out]; exact dblB_at (by rw [hnm]; exact hse) hd (by rw [hnm]; exact hox)
      rw [hse]
      obtain ⟨_, hds⟩ := List.getElem?_eq_some_iff.1 hd
      have hsi : (s : Int) < (p.length : Int) := by omega
      have hs0 : (0 : Int) ≤ (s : Int) := by omega
      clear hse HN hnm
      obtain ⟨b', o', hbb, _, vf, vm, d0, d1, d2, hcv⟩ := HP.out.get hs
      rw [hds] at d0 hcv
      obtain ⟨rfl, rfl⟩ : b = b' ∧ o = o' := by injection hbb with h; injection h with h1 h2; exact ⟨h1, h2⟩
      obtain ⟨u1, v1, rfl⟩ := hcv.1.form
      obtain ⟨u2, v2, rfl⟩ := hcv.2.form
      have hsm := HSP.out.2 d (List.mem_of_getElem? hd)
      have hsl2 := hsm.2.1
      have hxs := (hsm.2.2 x (own_mem hox)).2
      have HSD : Hid (SM front B w (.slice u2 d.meths.length v2) d.meths) := hcv.2
      obtain ⟨ki, x', hki2, hxx, hI2, hF2⟩ : ∃ k m, k < d.meths.length ∧ d.meths[k]? = some m ∧ ownI d name = (k : Int) ∧ ownF d name = some m := by
        rcases ownI_cases d name with ⟨_, h2⟩ | h2
        · rw [hox] at h2; simp at h2
        · exact h2
      obtain rfl : x = x' := by rw [hox] at hF2; simpa using hF2
      obtain ⟨bn, on', rfl, _, va2, vc2, k0, k1, k2, k3, hmv2⟩ := HSD.out.get hki2
      obtain ⟨_, hxk2⟩ := List.getElem?_eq_some_iff.1 hxx
      rw [hxk2] at k0 hmv2
      obtain ⟨gy, cy, rfl, _, _, hyr, _⟩ := hmv2.2
      have HY : Hid (Row w gy 0 x.code) := hyr
      have ln : bn < w.heap.size := cell_lt k3
      have hkn : (ki : Int) < (d.meths.length : Int) := by omega
      have f0 := cell_regrown P2.out.g0.1
      have f1 := cell_regrown ((hw2.cell lb).trans HC2.out)
      have f2 := cell_regrown ((hw2.cell lm).trans g3)
      have f3 := cell_regrown ((hw2.cell lb).trans d0)
      have f4 := cell_regrown ((hw2.cell lb).trans d1)
      have f5 := cell_regrown ((hw2.cell lb).trans d2)
      have f6 := cell_regrown ((hw2.cell ln).trans k3)
      have q1 : ∀ dd os, Calls Try.prog 28 #[.agg #[.int .i64 d.super, .slice u1 d.fields.length v1, .slice (some ⟨bn, on', none⟩) d.meths.length v2], .int .i64 name] (Sort.grow (redrawn w2 dd) os) fun e w'' => e = .returned (.int .i64 (ki : Int)) ∧ ∃ q : Regrown, w'' = Sort.grow (redrawn w2 q.d) q.os := fun dd os => by
        have h := l4Own B d u1 (some ⟨bn, on', none⟩) v2 d.fields.length v1 name hsl2 (Sort.grow (redrawn w2 dd) os) (SM.on HSD.out (Keep.of (below_over hw2 (below_regrown w2 dd os))))
        rw [hI2] at h
        exact Calls.regrown_of h
      have q2 : ∀ dd os, Calls Try.prog 60 #[.slice (some ⟨gx, 0, none⟩) m.code.length cx, .slice (some ⟨gy, 0, none⟩) x.code.length cy] (Sort.grow (redrawn w2 dd) os) fun e w'' => e = .returned (.bool (decide (m.code = x.code))) ∧ ∃ q : Regrown, w'' = Sort.grow (redrawn w2 q.d) q.os := fun dd os =>
        (l13Same gx gy cx cy m.code x.code hml hxs _ (HX.out.on (below_over hw2 (below_regrown w2 dd os))) (HY.out.on (below_over hw2 (below_regrown w2 dd os)))).regrown_of
      clear hcv hsm d0 d1 d2 hds hd hox hbb hI2 hF2 hxx hmv2 hyr k0 k1 k2 k3 hxk2 g3
      generalize decide (m.code = x.code) = q at *
      go_upto_region 5 with fail
      refine wp_region_quiet_below (by kernel_rfl) (by kernel_rfl) ?_
      repeat (go_big_quiet_step (fail))
      go_big_quiet_step ((go_at_call 28; exact q1 _ _))
      repeat (go_big_quiet_step (fail))
      go_big_quiet_step ((go_at_call 60; exact q2 _ _))
      repeat (go_big_quiet_step (fail))
      refine wpQuiet_nil ?_
      intro _ hw'
      obtain ⟨⟨dq, osq⟩, hw''⟩ := hw'
      subst hw''
      have hw3 : Below w.heap.size w (Sort.grow (redrawn w2 dq) osq) := below_over hw2 (below_regrown w2 dq osq)
      generalize Sort.grow (redrawn w2 dq) osq = w3 at *
      clear f0 f1 f2 f3 f4 f5 f6 q1 q2
      go_wp2
      go_ret
      exact ⟨retB HM.out.symm, hw3⟩
set_option maxRecDepth 100000 in
set_option maxHeartbeats 2000000 in
theorem specDouble (B : Nat) (p : Prg) (a : Option Addr) (cap : Nat) (t name : Int) (hsp : SmallP p) (w : World) (hp : SK front B w (.slice a p.length cap) p) :
    Calls Try.prog 16 #[.agg #[.slice a p.length cap], .int .i64 t, .int .i64 name] w fun e w' => e = .returned (.bool (dblA p t name)) ∧ Below w.heap.size w w' := by
  have HSP : Hid (SmallP p) := hsp
  have HP : Hid (SK front B w (.slice a p.length cap) p) := hp
  clear hp hsp
  obtain ⟨W, hW⟩ : ∃ W, W = w.alloc (.cells #[.slice a p.length cap] 34) := ⟨_, rfl⟩
  have hwW : Below w.heap.size w W := by rw [hW]; exact (Below.refl _ _).alloc (Nat.le_refl _) _
  have P0 : Hid (Cells W w.heap.size [.slice a p.length cap]) := by rw [hW]; exact Cells.new w _ rfl _ _
  go_enter Try.func16, Try.ntmps16
  go_wp2_with fail
  rw [← hW]
  clear hW
  refine (l4In B p a cap t HSP.out _ (SK.on HP.out (Keep.of hwW))).mono ?_
  rintro e w1 ⟨rfl, hb1⟩
  have hw1 : Below w.heap.size w w1 := below_over hwW hb1
  obtain ⟨p1, _⟩ := (P0.out.on hb1).g0
  clear hb1 P0
  cases hok : (okP p && inB p t)
  · have HN : Hid (dblA p t name = false) := dblA_no hok
    go_wp2
    go_ret
    exact ⟨retB HN.out.symm, hw1⟩
  · obtain ⟨hk, h0, h1⟩ := okIn hok
    obtain ⟨u, rfl⟩ := Int.eq_ofNat_of_zero_le h0
    have hup : u < p.length := by omega
    have HK : Hid (okP p = true) := hk
    have HPU : Hid (p[u]? = some p[u]) := List.getElem?_eq_getElem hup
    have HN : Hid (dblA p (u : Int) name = dblN p p[u] name) := by
      show _ = _
      unfold dblA
      rw [hok, Int.toNat_natCast, List.getElem?_eq_getElem hup]
      rfl
    clear hok hk
    generalize p[u] = c at *
    go_wp2_with fail
    refine (l13Double B p a cap u c HPU.out name HK.out HSP.out _ (SK.on HP.out (Keep.of hw1))).mono ?_
    rintro e w2 ⟨rfl, hb2⟩
    have hw2 : Below w.heap.size w w2 := below_over hw1 hb2
    clear hb2 p1 HK HPU
    generalize (dblN p c name) = q at *
    go_wp2
    go_ret
    exact ⟨retB HN.out.symm, hw2⟩
end Pg
end Go.Proofs.Ytbfiijfaaknhaaa

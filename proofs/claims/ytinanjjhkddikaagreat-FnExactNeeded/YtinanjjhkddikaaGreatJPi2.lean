/- Contracts of the program's own account of which classes and which programs are right. -/
import Derived.Test.YtinanjjhkddikaaGreatJPi1
namespace Go.Proofs.YtinanjjhkddikaaGreat
namespace Pg
open Go.ChangeShapes Go.WideShapes Go.ChangeAt Go.RowKit St

theorem okC_split (p : Prg) (i : Nat) (c : Cls) : okCB p i c = (decide (-1 ≤ c.super) && decide (c.super < (i : Int)) && decide (c.fields.length ≤ 4) && c.fields.all (tyB p.length) && decide (c.meths.length ≤ 4) && (List.range c.meths.length).all (okK p c)) := rfl
theorem okK_zero {p : Prg} {c : Cls} {m : Meth} (h : c.meths[0]? = some m) : okK p c 0 = (okMB p.length m && agreeF p m 6 c.super) := by simp [okK, h]
theorem okK_succ {p : Prg} {c : Cls} {j : Nat} {m q : Meth} (h : c.meths[j + 1]? = some m) (hq : c.meths[j]? = some q) : okK p c (j + 1) = (okMB p.length m && decide (q.name < m.name) && agreeF p m 6 c.super) := by simp [okK, h, hq]
theorem okC_done {p : Prg} {i : Nat} {c : Cls} (h1 : -1 ≤ c.super) (h2 : c.super < (i : Int)) (h3 : c.fields.length ≤ 4) (h4 : c.fields.all (tyB p.length) = true) (h5 : c.meths.length ≤ 4) (h : ∀ j, j < c.meths.length → okK p c j = true) : okCB p i c = true := by
  have : (List.range c.meths.length).all (okK p c) = true := List.all_eq_true.2 fun j hj => h j (List.mem_range.1 hj)
  rw [okC_split, this, h4]
  simp [h1, h2, h3, h5]

set_option maxRecDepth 100000 in
set_option maxHeartbeats 4000000 in
theorem isClassOf (B : Nat) (p : Prg) (i : Nat) (a : Option Addr) (cap : Nat) (hi : i < p.length) (h6 : p.length ≤ 6) (hsup : SupOk p i) (hsp : SmallP p) (w : World) (hp : SK front B w (.slice a p.length cap) p) :
    Calls Tryz.prog 51 #[.agg #[.slice a p.length cap], .int .i64 i] w fun e w' => e = .returned (.bool (okAt p i)) ∧ Below w.heap.size w w' := by
  obtain ⟨b, o, rfl, _, vf, vm, c0, c1, c2, hcv⟩ := hp.get hi
  obtain ⟨z1, t1, rfl⟩ := hcv.1.form
  obtain ⟨z2, t2, rfl⟩ := hcv.2.form
  have HP : Hid (SK front B w (.slice (some ⟨b, o, none⟩) p.length cap) p) := hp
  have HF : Hid (SI true B w (.slice z1 p[i].fields.length t1) p[i].fields) := hcv.1
  have HM : Hid (SM front B w (.slice z2 p[i].meths.length t2) p[i].meths) := hcv.2
  have HSUP : Hid (SupOk p i) := hsup
  have HSP : Hid (SmallP p) := hsp
  have hsc := hsp.2 _ (List.getElem_mem hi)
  have HSMM : Hid (∀ m ∈ p[i].meths, SmallM m) := hsc.2.2
  have hsf := hsc.1
  have hsm := hsc.2.1
  have HAT : Hid (okAt p i = okCB p i p[i]) := okAt_of (List.getElem?_eq_getElem hi)
  generalize p[i] = c at *
  clear hp hcv hsup hsp hsc
  have hii : (i : Int) < (p.length : Int) := by omega
  have hi0 : (0 : Int) ≤ (i : Int) := by omega
  obtain ⟨W, hW⟩ : ∃ W, W = (w.alloc (.cells #[.slice (some ⟨b, o, none⟩) p.length cap] 30)).alloc (.cells #[.int .i64 c.super, .slice z1 c.fields.length t1, .slice z2 c.meths.length t2] 52) := ⟨_, rfl⟩
  have hwW : Below w.heap.size w W := by rw [hW]; exact ((Below.refl _ _).alloc (Nat.le_refl _) _).alloc (by simp) _
  have P0 : Hid (Cells W w.heap.size [.slice (some ⟨b, o, none⟩) p.length cap]) := by rw [hW]; exact (Cells.new w _ rfl _ _).alloc _
  have C0 : Hid (Cells W (w.heap.size + 1) [.int .i64 c.super, .slice z1 c.fields.length t1, .slice z2 c.meths.length t2]) := by rw [hW]; exact Cells.new (w.alloc _) _ (by simp) _ _
  have lc : b < w.heap.size := cell_lt c0
  have hbP : Below w.heap.size w (w.alloc (.cells #[.slice (some ⟨b, o, none⟩) p.length cap] 30)) := (Below.refl _ _).alloc (Nat.le_refl _) _
  have c0 := (hbP.cell lc).trans c0
  have c1 := (hbP.cell lc).trans c1
  have c2 := (hbP.cell lc).trans c2
  clear hbP
  by_cases hs : -1 ≤ c.super ∧ c.super < (i : Int)
  · obtain ⟨hs1, hs2⟩ := hs
    have hs1' : ¬ c.super < -1 := by omega
    by_cases h4 : c.fields.length ≤ 4
    · have h4i : ¬ (4 : Int) < (c.fields.length : Int) := by omega
      go_enter Tryz.func51, Tryz.ntmps51
      go_wp2_with fail
      rw [← hW]
      clear hW
      refine (areTypesOf B (some ⟨b, o, none⟩) z1 p.length cap t1 c.fields hsf _ (SI.on HF.out (Keep.of hwW))).mono ?_
      rintro e w1 ⟨rfl, hb1⟩
      have hw1 : Below w.heap.size w w1 := below_over hwW hb1
      obtain ⟨q2, _⟩ := (C0.out.on hb1).g2
      have hW1 : Below W.heap.size W w1 := hb1
      clear hb1
      cases hty : c.fields.all (tyB p.length)
      · have HN : Hid (okAt p i = false) := by show _ = _; rw [HAT.out, okC_split, hty]; simp
        go_wp2
        go_ret
        exact ⟨retB HN.out.symm, hw1⟩
      · by_cases h4m : c.meths.length ≤ 4
        · have h4j : ¬ (4 : Int) < (c.meths.length : Int) := by omega
          have HTY : Hid (c.fields.all (tyB p.length) = true) := hty
          clear hty
          go_wp2
          go_loopw [42] (fun v wr => ∃ k : Nat, k ≤ c.meths.length ∧ v = .int .i64 k ∧ Hid (∀ j, j < k → okK p c j = true) ∧ Below W.heap.size W wr) (fun v _ => c.meths.length - (intOf v).toNat)
          case atStart => exact ⟨0, Nat.zero_le _, rfl, fun j h => absurd h (Nat.not_lt_zero _), hW1⟩
          case round =>
            clear q2 hW1 hw1
            obtain ⟨k, hk, rfl, hall, hb⟩ := hrel
            have hwr : Below w.heap.size w wr := below_over hwW hb
            by_cases hlt : k < c.meths.length
            · have hki : (k : Int) < (c.meths.length : Int) := by omega
              have hki0 : (0 : Int) ≤ (k : Int) := by omega
              obtain ⟨bm, om, rfl, _, va, vc, d0, d1, d2, d3, hmv⟩ := HM.out.get hlt
              obtain ⟨x1, y1, rfl⟩ := hmv.1.form
              obtain ⟨x2, y2, rfl⟩ := front.form hmv.2
              have l0 : bm < w.heap.size := cell_lt d0
              have m0 := (hwr.cell l0).trans d0
              have m1 := (hwr.cell l0).trans d1
              have m2 := (hwr.cell l0).trans d2
              have m3 := (hwr.cell l0).trans d3
              have HMV : Hid (MV front B w (.slice x1 c.meths[k].args.length y1) (.slice x2 c.meths[k].code.length y2) c.meths[k]) := hmv
              have HSM : Hid (SmallM c.meths[k]) := HSMM.out _ (List.getElem_mem hlt)
              have HNO : Hid (okK p c k = false → okAt p i = false) := fun h => by rw [HAT.out]; exact okC_no hlt h
              have HYES : Hid (okK p c k = true → ∀ j, j < k + 1 → okK p c j = true) := fun h j hj => by
                by_cases e : j = k
                · rw [e]; exact h
                · exact hall.out j (by omega)
              clear hmv d0 d1 d2 d3 hall
              obtain ⟨WM, hWM⟩ : ∃ WM, WM = wr.alloc (.cells #[.int .i64 c.meths[k].name, .slice x1 c.meths[k].args.length y1, .int .i64 c.meths[k].gives, .slice x2 c.meths[k].code.length y2] 55) := ⟨_, rfl⟩
              have hbM : Below wr.heap.size wr WM := by rw [hWM]; exact (Below.refl _ _).alloc (Nat.le_refl _) _
              have MB : Hid (Cells WM wr.heap.size [.int .i64 c.meths[k].name, .slice x1 c.meths[k].args.length y1, .int .i64 c.meths[k].gives, .slice x2 c.meths[k].code.length y2]) := by rw [hWM]; exact Cells.new wr _ rfl _ _
              have CB := (C0.out.on hb).on hbM
              have PB : Hid (Cells WM w.heap.size [.slice (some ⟨b, o, none⟩) p.length cap]) := (P0.out.on hb).on hbM
              have mb0 := MB.out.g0.1
              have cb2 := CB.g2.1
              have CBH : Hid (Cells WM (w.heap.size + 1) [.int .i64 c.super, .slice z1 c.fields.length t1, .slice (some ⟨bm, om, none⟩) c.meths.length t2]) := CB
              have hWM' : Below W.heap.size W WM := below_over hb hbM
              clear CB
              cases k with
              | zero =>
                have HK : Hid (okK p c 0 = (okMB p.length c.meths[0] && agreeF p c.meths[0] 6 c.super)) := okK_zero (List.getElem?_eq_getElem hlt)
                generalize c.meths[0] = m at *
                simp only [Nat.zero_mul, Nat.add_zero] at m0 m1 m2 m3
                go_wp2_with fail
                rw [← hWM]
                clear hWM m0 m1 m2 m3
                have r0 := cell_regrown mb0
                have r2 := cell_regrown cb2
                refine wp_region_quiet_below (by kernel_rfl) (by kernel_rfl) ?_
                repeat (go_big_quiet_step (fail))
                refine wpQuiet_nil ?_
                intro _ hw'
                obtain ⟨⟨dq, osq⟩, hw''⟩ := hw'
                subst hw''
                have hbV := below_regrown WM dq osq
                clear r0 r2 mb0 cb2
                generalize Sort.grow (redrawn WM dq) osq = V at *
                have hwV : Below w.heap.size w V := below_over (below_over hwr hbM) hbV
                have hWV : Below W.heap.size W V := below_over hWM' hbV
                have MV' : Hid (Cells V wr.heap.size [.int .i64 m.name, .slice x1 m.args.length y1, .int .i64 m.gives, .slice x2 m.code.length y2]) := MB.out.on hbV
                have PV' : Hid (Cells V w.heap.size [.slice (some ⟨b, o, none⟩) p.length cap]) := PB.out.on hbV
                have CV' : Hid (Cells V (w.heap.size + 1) [.int .i64 c.super, .slice z1 c.fields.length t1, .slice (some ⟨bm, om, none⟩) c.meths.length t2]) := CBH.out.on hbV
                obtain ⟨p0, _⟩ := PV'.out.g0
                obtain ⟨n0, _⟩ := MV'.out.g0
                obtain ⟨n1, _⟩ := MV'.out.g1
                obtain ⟨n2, _⟩ := MV'.out.g2
                obtain ⟨n3, _⟩ := MV'.out.g3
                clear hbV hbM hb hwr MB PB CBH hWM'
                go_wp2_with fail
                refine (isMethodOf B m (some ⟨b, o, none⟩) p.length cap _ _ HSM.out _ (HMV.out.on (Keep.of hwV))).mono ?_
                rintro e w2 ⟨rfl, hb2⟩
                have hw2 : Below w.heap.size w w2 := below_over hwV hb2
                have hW2 : Below W.heap.size W w2 := below_over hWV hb2
                have M2 := MV'.out.on hb2
                obtain ⟨p2, _⟩ := (PV'.out.on hb2).g0
                obtain ⟨c20, _⟩ := (CV'.out.on hb2).g0
                obtain ⟨k0, _⟩ := M2.g0
                obtain ⟨k1, _⟩ := M2.g1
                obtain ⟨k2, _⟩ := M2.g2
                obtain ⟨k3, _⟩ := M2.g3
                clear hb2 p0 n0 n1 n2 n3 M2 MV' PV' CV'
                cases hmo : okMB p.length m
                · have HN : Hid (okAt p i = false) := HNO.out (by rw [HK.out, hmo]; simp)
                  go_wp2
                  go_ret
                  exact ⟨retB HN.out.symm, hw2⟩
                · go_wp2_with fail
                  refine (agreesAbove B B p m i (some ⟨b, o, none⟩) cap _ _ c.super h6 (by omega) HSUP.out hs1 hs2 HSP.out HSM.out _ (SK.on HP.out (Keep.of hw2)) (HMV.out.on (Keep.of hw2))).mono ?_
                  rintro e w3 ⟨rfl, hb3⟩
                  have hw3 : Below w.heap.size w w3 := below_over hw2 hb3
                  have hW3 : Below W.heap.size W w3 := below_over hW2 hb3
                  clear hb3 p2 c20 k0 k1 k2 k3
                  cases hga : agreeF p m 6 c.super
                  · have HN : Hid (okAt p i = false) := HNO.out (by rw [HK.out, hga]; simp)
                    go_wp2
                    go_ret
                    exact ⟨retB HN.out.symm, hw3⟩
                  · have HY : Hid (∀ j, j < 0 + 1 → okK p c j = true) := HYES.out (by rw [HK.out, hmo, hga]; rfl)
                    clear HNO HYES HK
                    go_wp2
                    go_roundw
                    case rel => exact ⟨0 + 1, by omega, by go_num, HY.out, hW3⟩
                    case measure => simp [intOf]; omega
              | succ j =>
                have hj : j < c.meths.length := by omega
                have HK : Hid (okK p c (j + 1) = (okMB p.length c.meths[j + 1] && decide (c.meths[j].name < c.meths[j + 1].name) && agreeF p c.meths[j + 1] 6 c.super)) := okK_succ (List.getElem?_eq_getElem hlt) (List.getElem?_eq_getElem hj)
                obtain ⟨b', o', hb', _, va', vc', g0, _⟩ := HM.out.get hj
                simp at hb'
                obtain ⟨rfl, rfl⟩ := hb'
                have v0 := (below_over hwr hbM).cell (p := ⟨bm, om + j * 4, none⟩) l0 |>.trans g0
                clear g0
                generalize c.meths[j + 1] = m at *
                generalize c.meths[j] = pv at *
                have hwj : IntKind.i64.wrap (j : Int) = (j : Int) := by simp [IntKind.wrap, IntKind.signed, IntKind.bits]; omega
                have hji : (j : Int) < (c.meths.length : Int) := by omega
                have hj1 : (0 : Int) < (j : Int) + 1 := by omega
                have hcast : ((j + 1 : Nat) : Int) = (j : Int) + 1 := by omega
                go_wp2_with fail
                rw [← hWM]
                clear hWM m0 m1 m2 m3
                have r0 := cell_regrown mb0
                have r2 := cell_regrown cb2
                have r3 := cell_regrown v0
                by_cases hle : m.name ≤ pv.name
                · have HN : Hid (okAt p i = false) := HNO.out (by rw [HK.out]; simp; intro _ h; omega)
                  refine wp_region_quiet_below (by kernel_rfl) (by kernel_rfl) ?_
                  repeat (go_big_quiet_step (fail))
                  refine wpQuiet_nil ?_
                  intro _ hw'
                  obtain ⟨⟨dq, osq⟩, hw''⟩ := hw'
                  subst hw''
                  have hbV := below_regrown WM dq osq
                  clear r0 r2 mb0 cb2 v0 r3
                  generalize Sort.grow (redrawn WM dq) osq = V at *
                  have hwV : Below w.heap.size w V := below_over (below_over hwr hbM) hbV
                  go_wp2
                  go_ret
                  exact ⟨retB HN.out.symm, hwV⟩
                · refine wp_region_quiet_below (by kernel_rfl) (by kernel_rfl) ?_
                  repeat (go_big_quiet_step (fail))
                  refine wpQuiet_nil ?_
                  intro _ hw'
                  obtain ⟨⟨dq, osq⟩, hw''⟩ := hw'
                  subst hw''
                  have hbV := below_regrown WM dq osq
                  have HK : Hid (okK p c (j + 1) = (okMB p.length m && agreeF p m 6 c.super)) := by
                    show _ = _
                    rw [HK.out]
                    have : decide (pv.name < m.name) = true := by simp; omega
                    rw [this, Bool.and_true]
                  clear r0 r2 mb0 cb2 v0 r3 hle hwj
                  generalize Sort.grow (redrawn WM dq) osq = V at *
                  have hwV : Below w.heap.size w V := below_over (below_over hwr hbM) hbV
                  have hWV : Below W.heap.size W V := below_over hWM' hbV
                  have MV' : Hid (Cells V wr.heap.size [.int .i64 m.name, .slice x1 m.args.length y1, .int .i64 m.gives, .slice x2 m.code.length y2]) := MB.out.on hbV
                  have PV' : Hid (Cells V w.heap.size [.slice (some ⟨b, o, none⟩) p.length cap]) := PB.out.on hbV
                  have CV' : Hid (Cells V (w.heap.size + 1) [.int .i64 c.super, .slice z1 c.fields.length t1, .slice (some ⟨bm, om, none⟩) c.meths.length t2]) := CBH.out.on hbV
                  obtain ⟨p0, _⟩ := PV'.out.g0
                  obtain ⟨n0, _⟩ := MV'.out.g0
                  obtain ⟨n1, _⟩ := MV'.out.g1
                  obtain ⟨n2, _⟩ := MV'.out.g2
                  obtain ⟨n3, _⟩ := MV'.out.g3
                  clear hbV hbM hb hwr MB PB CBH hWM'
                  go_wp2_with fail
                  refine (isMethodOf B m (some ⟨b, o, none⟩) p.length cap _ _ HSM.out _ (HMV.out.on (Keep.of hwV))).mono ?_
                  rintro e w2 ⟨rfl, hb2⟩
                  have hw2 : Below w.heap.size w w2 := below_over hwV hb2
                  have hW2 : Below W.heap.size W w2 := below_over hWV hb2
                  have M2 := MV'.out.on hb2
                  obtain ⟨p2, _⟩ := (PV'.out.on hb2).g0
                  obtain ⟨c20, _⟩ := (CV'.out.on hb2).g0
                  obtain ⟨k0, _⟩ := M2.g0
                  obtain ⟨k1, _⟩ := M2.g1
                  obtain ⟨k2, _⟩ := M2.g2
                  obtain ⟨k3, _⟩ := M2.g3
                  clear hb2 p0 n0 n1 n2 n3 M2 MV' PV' CV'
                  cases hmo : okMB p.length m
                  · have HN : Hid (okAt p i = false) := HNO.out (by rw [HK.out, hmo]; simp)
                    go_wp2
                    go_ret
                    exact ⟨retB HN.out.symm, hw2⟩
                  · go_wp2_with fail
                    refine (agreesAbove B B p m i (some ⟨b, o, none⟩) cap _ _ c.super h6 (by omega) HSUP.out hs1 hs2 HSP.out HSM.out _ (SK.on HP.out (Keep.of hw2)) (HMV.out.on (Keep.of hw2))).mono ?_
                    rintro e w3 ⟨rfl, hb3⟩
                    have hw3 : Below w.heap.size w w3 := below_over hw2 hb3
                    have hW3 : Below W.heap.size W w3 := below_over hW2 hb3
                    clear hb3 p2 c20 k0 k1 k2 k3
                    cases hga : agreeF p m 6 c.super
                    · have HN : Hid (okAt p i = false) := HNO.out (by rw [HK.out, hga]; simp)
                      go_wp2
                      go_ret
                      exact ⟨retB HN.out.symm, hw3⟩
                    · have HY : Hid (∀ jj, jj < (j + 1) + 1 → okK p c jj = true) := HYES.out (by rw [HK.out, hmo, hga]; rfl)
                      clear HNO HYES HK
                      go_wp2
                      go_roundw
                      case rel => exact ⟨(j + 1) + 1, by omega, by go_num, HY.out, hW3⟩
                      case measure => simp [intOf]; omega
            · have HN : Hid (okAt p i = true) := by
                show _ = _
                rw [HAT.out]
                exact okC_done hs1 hs2 h4 HTY.out h4m (fun j hj => hall.out j (by omega))
              go_wp2
              go_ret
              exact ⟨retB HN.out.symm, hwr⟩
        · have h4j : (4 : Int) < (c.meths.length : Int) := by omega
          have HN : Hid (okAt p i = false) := by show _ = _; rw [HAT.out, okC_split]; simp [h4m]
          go_wp2
          go_ret
          exact ⟨retB HN.out.symm, hw1⟩
    · have h4i : (4 : Int) < (c.fields.length : Int) := by omega
      have HN : Hid (okAt p i = false) := by show _ = _; rw [HAT.out, okC_split]; simp [h4]
      go_enter Tryz.func51, Tryz.ntmps51
      go_wp2
      go_ret
      rw [← hW]
      exact ⟨retB HN.out.symm, hwW⟩
  · have HN : Hid (okAt p i = false) := by show _ = _; rw [HAT.out, okC_split]; simp; intro h1 h2; exact absurd ⟨h1, h2⟩ hs
    by_cases hs1 : c.super < -1
    · go_enter Tryz.func51, Tryz.ntmps51
      go_wp2
      go_ret
      rw [← hW]
      exact ⟨retB HN.out.symm, hwW⟩
    · have hs2 : (i : Int) ≤ c.super := by omega
      go_enter Tryz.func51, Tryz.ntmps51
      go_wp2
      go_ret
      rw [← hW]
      exact ⟨retB HN.out.symm, hwW⟩
end Pg
end Go.Proofs.YtinanjjhkddikaaGreat

/- The contract of the other side's account of which programs are right. -/
import Derived.Test.YtinanjjhkddikaaGreatJPs0
import Derived.BigQuiet
namespace Go.Proofs.YtinanjjhkddikaaGreat
namespace Pg
open Go.ChangeShapes Go.WideShapes Go.ChangeAt Go.RowKit St

theorem okC_split' (p : Prg) (i : Nat) (c : Cls) : okCB p i c = (decide (-1 ≤ c.super) && decide (c.super < (i : Int)) && decide (c.fields.length ≤ 4) && c.fields.all (tyB p.length) && decide (c.meths.length ≤ 4) && (List.range c.meths.length).all (okK p c)) := rfl
theorem okK_zero' {p : Prg} {c : Cls} {m : Meth} (h : c.meths[0]? = some m) : okK p c 0 = (okMB p.length m && agreeF p m 6 c.super) := by simp [okK, h]
theorem okK_succ' {p : Prg} {c : Cls} {j : Nat} {m q : Meth} (h : c.meths[j + 1]? = some m) (hq : c.meths[j]? = some q) : okK p c (j + 1) = (okMB p.length m && decide (q.name < m.name) && agreeF p m 6 c.super) := by simp [okK, h, hq]
theorem okC_done' {p : Prg} {i : Nat} {c : Cls} (h1 : -1 ≤ c.super) (h2 : c.super < (i : Int)) (h3 : c.fields.length ≤ 4) (h4 : c.fields.all (tyB p.length) = true) (h5 : c.meths.length ≤ 4) (h : ∀ j, j < c.meths.length → okK p c j = true) : okCB p i c = true := by
  have : (List.range c.meths.length).all (okK p c) = true := List.all_eq_true.2 fun j hj => h j (List.mem_range.1 hj)
  rw [okC_split', this, h4]
  simp [h1, h2, h3, h5]
theorem mainOk_of' {p : Prg} {c : Cls} (h : p[0]? = some c) : (ownF c 0 = none → mainOk p = false) ∧ ∀ m, ownF c 0 = some m → mainOk p = (decide (m.args.length = 0) && decide (m.gives = -1)) := by
  unfold mainOk
  rw [h]
  refine ⟨fun h => ?_, fun m h => ?_⟩
  · simp [h]
  · simp [h]
/-- What stands in a round over the methods: the boxes of the program, of the class and of the method. -/
structure Boxes (s gc gm : Nat) (p : Prg) (c : Cls) (m : Meth) (b o cap : Nat) (z1 z2 x1 x2 : Option Addr) (t1 t2 y1 y2 : Nat) (w : World) : Prop where
  pb : Cells w s [.slice (some ⟨b, o, none⟩) p.length cap]
  cb : Cells w gc [.int .i64 c.super, .slice z1 c.fields.length t1, .slice z2 c.meths.length t2]
  mb : Cells w gm [.int .i64 m.name, .slice x1 m.args.length y1, .int .i64 m.gives, .slice x2 m.code.length y2]
theorem Boxes.on {s gc gm : Nat} {p : Prg} {c : Cls} {m : Meth} {b o cap : Nat} {z1 z2 x1 x2 : Option Addr} {t1 t2 y1 y2 : Nat} {u w : World} (h : Boxes s gc gm p c m b o cap z1 z2 x1 x2 t1 t2 y1 y2 u) (hb : Below u.heap.size u w) : Boxes s gc gm p c m b o cap z1 z2 x1 x2 t1 t2 y1 y2 w := ⟨h.pb.on hb, h.cb.on hb, h.mb.on hb⟩

set_option maxRecDepth 100000 in
set_option maxHeartbeats 8000000 in
theorem specProgramOk (B : Nat) (p : Prg) (a : Option Addr) (cap : Nat) (hsp : SmallP p) (w : World) (hp : SK front B w (.slice a p.length cap) p) :
    Calls Tryz.prog 24 #[.agg #[.slice a p.length cap]] w fun e w' => e = .returned (.bool (okP p)) ∧ Below w.heap.size w w' := by
  have hpl := hsp.1
  have HP : Hid (SK front B w (.slice a p.length cap) p) := hp
  have HSP : Hid (SmallP p) := hsp
  clear hp hsp
  by_cases hlen : 1 ≤ p.length ∧ p.length ≤ 6
  · obtain ⟨h1, h6⟩ := hlen
    have h1i : ¬ (p.length : Int) < 1 := by omega
    have h6i : ¬ (6 : Int) < (p.length : Int) := by omega
    obtain ⟨b, o, rfl, _, _⟩ := HP.out.get (k := 0) (by omega)
    obtain ⟨W, hW⟩ : ∃ W, W = w.alloc (.cells #[.slice (some ⟨b, o, none⟩) p.length cap] 30) := ⟨_, rfl⟩
    have hwW : Below w.heap.size w W := by rw [hW]; exact (Below.refl _ _).alloc (Nat.le_refl _) _
    have P0 : Hid (Cells W w.heap.size [.slice (some ⟨b, o, none⟩) p.length cap]) := by rw [hW]; exact Cells.new w _ rfl _ _
    go_enter Tryz.func24, Tryz.ntmps24
    go_wp2
    rw [← hW]
    clear hW
    go_loopw [4] (fun v wr => ∃ i : Nat, i ≤ p.length ∧ v = .int .i64 i ∧ Hid (∀ j, j < i → okAt p j = true) ∧ Below W.heap.size W wr) (fun v _ => p.length - (intOf v).toNat)
    case atStart => exact ⟨0, Nat.zero_le _, rfl, fun j h => absurd h (Nat.not_lt_zero _), Below.refl _ _⟩
    case round =>
      obtain ⟨i, hi, rfl, hall, hb⟩ := hrel
      have hwr : Below w.heap.size w wr := below_over hwW hb
      obtain ⟨pp0, _⟩ := (P0.out.on hb).g0
      by_cases hlt : i < p.length
      · have hii : (i : Int) < (p.length : Int) := by omega
        have hi0 : (0 : Int) ≤ (i : Int) := by omega
        obtain ⟨b', o', hbo, _, vf, vm, d0, d1, d2, hcv⟩ := HP.out.get hlt
        simp at hbo
        obtain ⟨rfl, rfl⟩ := hbo
        obtain ⟨z1, t1, rfl⟩ := hcv.1.form
        obtain ⟨z2, t2, rfl⟩ := hcv.2.form
        have l0 : b < w.heap.size := cell_lt d0
        have c0 := (hwr.cell l0).trans d0
        have c1 := (hwr.cell l0).trans d1
        have c2 := (hwr.cell l0).trans d2
        have HSUP : Hid (SupOk p i) := SupOk.of hall.out
        have HFL : Hid (SI true B w (.slice z1 p[i].fields.length t1) p[i].fields) := hcv.1
        have HM : Hid (SM front B w (.slice z2 p[i].meths.length t2) p[i].meths) := hcv.2
        have hsc := HSP.out.2 _ (List.getElem_mem hlt)
        have HSMM : Hid (∀ m ∈ p[i].meths, SmallM m) := hsc.2.2
        have hsf := hsc.1
        have hsm := hsc.2.1
        have HNO : Hid (okCB p i p[i] = false → okP p = false) := fun h => okP_no hlt (by rw [okAt_of (List.getElem?_eq_getElem hlt)]; exact h)
        have HYES : Hid (okCB p i p[i] = true → ∀ j, j < i + 1 → okAt p j = true) := fun h j hj => by
          by_cases e : j = i
          · rw [e, okAt_of (List.getElem?_eq_getElem hlt)]; exact h
          · exact hall.out j (by omega)
        generalize p[i] = c at *
        clear hcv hsc d0 d1 d2 hall
        obtain ⟨WC, hWC⟩ : ∃ WC, WC = wr.alloc (.cells #[.int .i64 c.super, .slice z1 c.fields.length t1, .slice z2 c.meths.length t2] 52) := ⟨_, rfl⟩
        have hbC : Below wr.heap.size wr WC := by rw [hWC]; exact (Below.refl _ _).alloc (Nat.le_refl _) _
        have CB : Hid (Cells WC wr.heap.size [.int .i64 c.super, .slice z1 c.fields.length t1, .slice z2 c.meths.length t2]) := by rw [hWC]; exact Cells.new wr _ rfl _ _
        have PB : Hid (Cells WC w.heap.size [.slice (some ⟨b, o, none⟩) p.length cap]) := (P0.out.on hb).on hbC
        have hwC : Below w.heap.size w WC := below_over hwr hbC
        have hWC' : Below W.heap.size W WC := below_over hb hbC
        by_cases hs1 : -1 ≤ c.super
        · have hs1' : ¬ c.super < -1 := by omega
          by_cases hs2 : c.super < (i : Int)
          · have hs2' : ¬ (i : Int) ≤ c.super := by omega
            by_cases h4 : c.fields.length ≤ 4
            · have h4i : ¬ (4 : Int) < (c.fields.length : Int) := by omega
              by_cases h4m : c.meths.length ≤ 4
              · have h4j : ¬ (4 : Int) < (c.meths.length : Int) := by omega
                go_wp2
                rw [← hWC]
                generalize hgc : wr.heap.size = gc at *
                clear hWC hbC hgc pp0 c0 c1 c2 hb
                go_loopw [6] (fun v wf => ∃ f : Nat, f ≤ c.fields.length ∧ v = .int .i64 f ∧ Hid ((c.fields.take f).all (tyB p.length) = true) ∧ Below WC.heap.size WC wf) (fun v _ => c.fields.length - (intOf v).toNat)
                case atStart => exact ⟨0, Nat.zero_le _, rfl, rfl, Below.refl _ _⟩
                case round =>
                  obtain ⟨f, hf, rfl, hfa, hbf⟩ := hrel
                  have hwf := below_over hwC hbf
                  obtain ⟨q1, _⟩ := (CB.out.on hbf).g1
                  by_cases hfl : f < c.fields.length
                  · obtain ⟨bf, of, rfl, _, e1⟩ := (SI.on HFL.out (Keep.of hwf)).get hfl
                    unfold IntAt at e1
                    rw [Nat.mul_one] at e1
                    have HT : Hid (tyB p.length c.fields[f] = true → (c.fields.take (f + 1)).all (tyB p.length) = true) := fun h => take_all hfl hfa.out h
                    have HFN : Hid (tyB p.length c.fields[f] = false → c.fields.all (tyB p.length) = false) := fun h => all_no hfl h
                    generalize c.fields[f] = t at *
                    have hfi : (f : Int) < (c.fields.length : Int) := by omega
                    clear hfa
                    go_wp2_with fail
                    refine (l4Type t p.length _).mono ?_
                    rintro e wz ⟨rfl, rfl⟩
                    clear q1 e1
                    cases ht : tyB p.length t
                    · have HX : Hid (okP p = false) := HNO.out (by rw [okC_split', HFN.out ht]; simp)
                      go_wp2
                      go_ret
                      exact ⟨retB HX.out.symm, hwf⟩
                    · have HX : Hid ((c.fields.take (f + 1)).all (tyB p.length) = true) := HT.out ht
                      clear HT HFN
                      go_wp2
                      go_roundw
                      case rel => exact ⟨f + 1, by omega, by go_num, HX.out, hbf⟩
                      case measure => simp [intOf]; omega
                  · have HTY : Hid (c.fields.all (tyB p.length) = true) := by
                      show _ = _
                      have h := hfa.out
                      rw [List.take_of_length_le (by omega)] at h
                      exact h
                    clear hfa
                    go_wp2
                    clear q1
                    go_loopw [7] (fun v wm => ∃ k : Nat, k ≤ c.meths.length ∧ v = .int .i64 k ∧ Hid (∀ j, j < k → okK p c j = true) ∧ Below WC.heap.size WC wm) (fun v _ => c.meths.length - (intOf v).toNat)
                    case atStart => exact ⟨0, Nat.zero_le _, rfl, fun j h => absurd h (Nat.not_lt_zero _), hbf⟩
                    case round =>
                      clear hbf hwf hf hfl
                      obtain ⟨k, hk, rfl, hmall, hbm⟩ := hrel
                      have hwm : Below w.heap.size w wr := below_over hwC hbm
                      by_cases hlt2 : k < c.meths.length
                      · have hki : (k : Int) < (c.meths.length : Int) := by omega
                        have hki0 : (0 : Int) ≤ (k : Int) := by omega
                        obtain ⟨bm, om, rfl, _, va, vc, d0, d1, d2, d3, hmv⟩ := HM.out.get hlt2
                        obtain ⟨x1, y1, rfl⟩ := hmv.1.form
                        obtain ⟨x2, y2, rfl⟩ := front.form hmv.2
                        have lm : bm < w.heap.size := cell_lt d0
                        have m0 := (hwm.cell lm).trans d0
                        have m1 := (hwm.cell lm).trans d1
                        have m2 := (hwm.cell lm).trans d2
                        have m3 := (hwm.cell lm).trans d3
                        have HMV : Hid (MV front B w (.slice x1 c.meths[k].args.length y1) (.slice x2 c.meths[k].code.length y2) c.meths[k]) := hmv
                        have HSM : Hid (SmallM c.meths[k]) := HSMM.out _ (List.getElem_mem hlt2)
                        clear hmv d0 d1 d2 d3
                        obtain ⟨cq2, _⟩ := (CB.out.on hbm).g2
                        obtain ⟨WM, hWM⟩ : ∃ WM, WM = wr.alloc (.cells #[.int .i64 c.meths[k].name, .slice x1 c.meths[k].args.length y1, .int .i64 c.meths[k].gives, .slice x2 c.meths[k].code.length y2] 55) := ⟨_, rfl⟩
                        have hbM : Below wr.heap.size wr WM := by rw [hWM]; exact (Below.refl _ _).alloc (Nat.le_refl _) _
                        have BXM : Hid (Boxes w.heap.size gc wr.heap.size p c c.meths[k] b o cap z1 (some ⟨bm, om, none⟩) x1 x2 t1 t2 y1 y2 WM) := ⟨(PB.out.on hbm).on hbM, (CB.out.on hbm).on hbM, by rw [hWM]; exact Cells.new wr _ rfl _ _⟩
                        have hwM : Below w.heap.size w WM := below_over hwm hbM
                        have hCM : Below WC.heap.size WC WM := below_over hbm hbM
                        have mb0 := BXM.out.mb.g0.1
                        have mb1 := BXM.out.mb.g1.1
                        have mb2 := BXM.out.mb.g2.1
                        have mb3 := BXM.out.mb.g3.1
                        have cb2 := BXM.out.cb.g2.1
                        have r0 := cell_regrown mb0
                        have r1 := cell_regrown mb1
                        have r2 := cell_regrown mb2
                        have r3 := cell_regrown mb3
                        have r4 := cell_regrown cb2
                        obtain ⟨mo, hmo⟩ : ∃ mo, mo = okMB p.length c.meths[k] := ⟨_, rfl⟩
                        have cM : ∀ d os, Calls Tryz.prog 41 #[.agg #[.int .i64 c.meths[k].name, .slice x1 c.meths[k].args.length y1, .int .i64 c.meths[k].gives, .slice x2 c.meths[k].code.length y2], .int .i64 p.length] (Sort.grow (redrawn WM d) os) fun e w'' => e = .returned (.bool mo) ∧ ∃ p : Regrown, w'' = Sort.grow (redrawn WM p.d) p.os := by
                          intro d os
                          rw [hmo]
                          exact Calls.regrown_of (l4Method B c.meths[k] p.length _ _ HSM.out _ (HMV.out.on (Keep.of (below_over hwM (below_regrown WM d os)))))
                        have HMO : Hid (mo = okMB p.length c.meths[k]) := hmo
                        clear hmo
                        cases k with
                        | zero =>
                          have HK : Hid (okK p c 0 = (okMB p.length c.meths[0] && agreeF p c.meths[0] 6 c.super)) := okK_zero' (List.getElem?_eq_getElem hlt2)
                          generalize c.meths[0] = m at *
                          simp only [Nat.zero_mul, Nat.add_zero] at m0 m1 m2 m3
                          go_wp2_with fail
                          rw [← hWM]
                          clear hWM m0 m1 m2 m3 cq2
                          generalize hgm : wr.heap.size = gm at *
                          clear hbM hbm hgm hwm
                          cases mo
                          · have HX : Hid (okP p = false) := HNO.out (okC_no (k := 0) hlt2 (by rw [HK.out, ← HMO.out]; rfl))
                            refine wp_region_quiet_below (by kernel_rfl) (by kernel_rfl) ?_
                            repeat (go_big_quiet_step ((go_at_call 41; exact cM _ _)))
                            refine wpQuiet_nil ?_
                            intro _ hw'
                            obtain ⟨⟨dq, osq⟩, hw''⟩ := hw'
                            subst hw''
                            have hbV := below_regrown WM dq osq
                            have hwV : Below w.heap.size w (Sort.grow (redrawn WM dq) osq) := below_over hwM hbV
                            have hCV : Below WC.heap.size WC (Sort.grow (redrawn WM dq) osq) := below_over hCM hbV
                            have BXV : Hid (Boxes w.heap.size gc gm p c m b o cap z1 (some ⟨bm, om, none⟩) x1 x2 t1 t2 y1 y2 (Sort.grow (redrawn WM dq) osq)) := BXM.out.on hbV
                            clear hbV r0 r1 r2 r3 r4 cM mb0 mb1 mb2 mb3 cb2
                            generalize Sort.grow (redrawn WM dq) osq = V at *
                            go_wp2
                            go_ret
                            exact ⟨retB HX.out.symm, hwV⟩
                          · have HKK : Hid (okK p c 0 = agreeF p m 6 c.super) := by show _ = _; rw [HK.out, ← HMO.out, Bool.true_and]
                            refine wp_region_quiet_below (by kernel_rfl) (by kernel_rfl) ?_
                            repeat (go_big_quiet_step ((go_at_call 41; exact cM _ _)))
                            refine wpQuiet_nil ?_
                            intro _ hw'
                            obtain ⟨⟨dq, osq⟩, hw''⟩ := hw'
                            subst hw''
                            have hbV := below_regrown WM dq osq
                            have hwV : Below w.heap.size w (Sort.grow (redrawn WM dq) osq) := below_over hwM hbV
                            have hCV : Below WC.heap.size WC (Sort.grow (redrawn WM dq) osq) := below_over hCM hbV
                            have BXV : Hid (Boxes w.heap.size gc gm p c m b o cap z1 (some ⟨bm, om, none⟩) x1 x2 t1 t2 y1 y2 (Sort.grow (redrawn WM dq) osq)) := BXM.out.on hbV
                            clear hbV r0 r1 r2 r3 r4 cM mb0 mb1 mb2 mb3 cb2 HK HMO
                            generalize Sort.grow (redrawn WM dq) osq = V at *
                            obtain ⟨cc0, _⟩ := BXV.out.cb.g0
                            go_wp2
                            clear cc0
                            go_loopw [9] (fun v wr => ∃ u : Int, v = .int .i64 u ∧ -1 ≤ u ∧ u < (i : Int) ∧ Hid (agreeF p m 6 c.super = agreeF p m 6 u) ∧ Below V.heap.size V wr) (fun v _ => (intOf v + 1).toNat)
                            case atStart => exact ⟨c.super, rfl, hs1, hs2, rfl, Below.refl _ _⟩
                            case round =>
                              obtain ⟨u, rfl, hu0, hu1, hag, hbu⟩ := hrel
                              have hwu : Below w.heap.size w wr := below_over hwV hbu
                              have hCu : Below WC.heap.size WC wr := below_over hCV hbu
                              have BXU : Hid (Boxes w.heap.size gc gm p c m b o cap z1 (some ⟨bm, om, none⟩) x1 x2 t1 t2 y1 y2 wr) := BXV.out.on hbu
                              by_cases hneg : u < 0
                              · have HY : Hid (∀ j, j < 0 + 1 → okK p c j = true) := fun j hj => by
                                  by_cases e : j = 0
                                  · rw [e, HKK.out, hag.out]; exact agreeF_neg p m 6 hneg
                                  · exact hmall.out j (by omega)
                                have hng : ¬ (0 : Int) ≤ u := by omega
                                clear hag
                                go_wp2
                                go_roundw
                                case rel => exact ⟨0 + 1, by omega, by go_num, HY.out, hCu⟩
                                case measure => simp [intOf]; omega
                              · obtain ⟨j2, rfl⟩ := Int.eq_ofNat_of_zero_le (show 0 ≤ u by omega)
                                have hjp : j2 < p.length := by omega
                                have hj2i : (j2 : Int) < (p.length : Int) := by omega
                                have hj20 : (0 : Int) ≤ (j2 : Int) := by omega
                                obtain ⟨b2, o2, hbo2, _, uf, um, e0, e1, e2, hcu⟩ := HP.out.get hjp
                                simp at hbo2
                                obtain ⟨rfl, rfl⟩ := hbo2
                                obtain ⟨z3, t3, rfl⟩ := hcu.1.form
                                obtain ⟨z4, t4, rfl⟩ := hcu.2.form
                                have k0 := (hwu.cell l0).trans e0
                                have k1 := (hwu.cell l0).trans e1
                                have k2 := (hwu.cell l0).trans e2
                                have HSM2 : Hid (SM front B w (.slice z4 p[j2].meths.length t4) p[j2].meths) := hcu.2
                                have hsc2 := HSP.out.2 _ (List.getElem_mem hjp)
                                have HSMM2 : Hid (∀ m ∈ p[j2].meths, SmallM m) := hsc2.2.2
                                have hsl2 := hsc2.2.1
                                have HST : Hid (agreeF p m 6 (j2 : Int) = (agree1 p[j2] m && agreeF p m 6 p[j2].super)) := agreeF_step HSUP.out m (by omega) (by omega) (List.getElem?_eq_getElem hjp)
                                have hsu := HSUP.out j2 _ (by omega) (List.getElem?_eq_getElem hjp)
                                have hsu1 := hsu.1
                                have hsu2 := hsu.2
                                generalize p[j2] = cu at *
                                clear hcu hsc2 hsu e0 e1 e2 hneg
                                obtain ⟨q0, _⟩ := BXU.out.pb.g0
                                obtain ⟨q1, _⟩ := BXU.out.mb.g0
                                have r0 := cell_regrown k0
                                have r1 := cell_regrown k1
                                have r2 := cell_regrown k2
                                have r3 := cell_regrown q0
                                have r4 := cell_regrown q1
                                obtain ⟨at', hat⟩ : ∃ at', at' = ownI cu m.name := ⟨_, rfl⟩
                                have cO : ∀ d os, Calls Tryz.prog 42 #[.agg #[.int .i64 cu.super, .slice z3 cu.fields.length t3, .slice z4 cu.meths.length t4], .int .i64 m.name] (Sort.grow (redrawn wr d) os) fun e w'' => e = .returned (.int .i64 at') ∧ ∃ p : Regrown, w'' = Sort.grow (redrawn wr p.d) p.os := by
                                  intro d os
                                  rw [hat]
                                  exact Calls.regrown_of (l4Own B cu z3 z4 t4 cu.fields.length t3 m.name hsl2 _ (SM.on HSM2.out (Keep.of (below_over hwu (below_regrown wr d os)))))
                                have HAT2 : Hid (at' = ownI cu m.name) := hat
                                clear hat
                                go_wp2_with fail
                                refine wp_region_quiet_below (by kernel_rfl) (by kernel_rfl) ?_
                                repeat (go_big_quiet_step ((go_at_call 42; exact cO _ _)))
                                refine wpQuiet_nil ?_
                                intro _ hw'
                                obtain ⟨⟨dq, osq⟩, hw''⟩ := hw'
                                subst hw''
                                have hbV := below_regrown wr dq osq
                                have hwu2 : Below w.heap.size w (Sort.grow (redrawn wr dq) osq) := below_over hwu hbV
                                have hVu2 : Below V.heap.size V (Sort.grow (redrawn wr dq) osq) := below_over hbu hbV
                                have BXW : Hid (Boxes w.heap.size gc gm p c m b o cap z1 (some ⟨bm, om, none⟩) x1 x2 t1 t2 y1 y2 (Sort.grow (redrawn wr dq) osq)) := BXU.out.on hbV
                                have s0 := r0 dq osq
                                have s2 := r2 dq osq
                                clear r0 r1 r2 r3 r4 cO k0 k1 k2 q0 q1 hbV hbu hwu hCu BXU
                                generalize Sort.grow (redrawn wr dq) osq = wr2 at *
                                obtain ⟨q0, _⟩ := BXW.out.pb.g0
                                have a0 := cell_regrown q0
                                have a1 := cell_regrown s2
                                rcases ownI_cases cu m.name with ⟨hI, hF⟩ | ⟨kk, x, hkk, hx, hI, hF⟩
                                · have hat1 : at' = -1 := by rw [HAT2.out]; exact hI
                                  subst hat1
                                  have HT : Hid (agreeF p m 6 c.super = agreeF p m 6 cu.super) := by
                                    show _ = _
                                    rw [hag.out, HST.out]; simp [agree1, hF]
                                  clear hI hF HAT2 hag HST
                                  go_wp2_with fail
                                  refine wp_region_quiet_below (by kernel_rfl) (by kernel_rfl) ?_
                                  repeat (go_big_quiet_step (fail))
                                  refine wpQuiet_nil ?_
                                  intro _ hw'
                                  obtain ⟨⟨dq, osq⟩, hw''⟩ := hw'
                                  subst hw''
                                  have hbV := below_regrown wr2 dq osq
                                  have hVu3 : Below V.heap.size V (Sort.grow (redrawn wr2 dq) osq) := below_over hVu2 hbV
                                  have q3 := a0 dq osq
                                  have s3 := cell_regrown s0 dq osq
                                  clear a0 a1 q0 s0 s2 hbV hVu2 hwu2 BXW
                                  generalize Sort.grow (redrawn wr2 dq) osq = wr3 at *
                                  go_wp2
                                  go_roundw
                                  case rel => exact ⟨cu.super, rfl, hsu1, by omega, HT.out, hVu3⟩
                                  case measure => simp [intOf]; omega
                                · have hat1 : at' = (kk : Int) := by rw [HAT2.out]; exact hI
                                  subst hat1
                                  have hkki : (kk : Int) < (cu.meths.length : Int) := by omega
                                  have hkk0 : (0 : Int) ≤ (kk : Int) := by omega
                                  obtain ⟨bx, ox, rfl, _, wa, wc, g0, g1, g2, g3, hxv⟩ := HSM2.out.get hkk
                                  obtain ⟨x3, y3, rfl⟩ := hxv.1.form
                                  have exx : cu.meths[kk] = x := by
                                    rw [List.getElem?_eq_getElem hkk] at hx
                                    simpa using hx
                                  rw [exx] at g1 g2 hxv
                                  have lx : bx < w.heap.size := cell_lt g1
                                  have g1' := (hwu2.cell lx).trans g1
                                  have g2' := (hwu2.cell lx).trans g2
                                  have HXI : Hid (SI true B w (.slice x3 x.args.length y3) x.args) := hxv.1
                                  have hxs := (HSMM2.out x (List.mem_of_getElem? hx)).1
                                  have HAX : Hid (agree1 cu m = (decide (x.args = m.args) && decide (x.gives = m.gives))) := by show _ = _; simp [agree1, hF]
                                  clear hI hF HAT2 g0 g1 g2 g3 hxv exx hx
                                  obtain ⟨n1, _⟩ := BXW.out.mb.g1
                                  obtain ⟨n2, _⟩ := BXW.out.mb.g2
                                  have a2 := cell_regrown g1'
                                  have a3 := cell_regrown g2'
                                  have a4 := cell_regrown n1
                                  have a5 := cell_regrown n2
                                  obtain ⟨lk, hlk⟩ : ∃ lk, lk = decide (x.args = m.args) := ⟨_, rfl⟩
                                  have cL : ∀ d os, Calls Tryz.prog 43 #[.slice x3 x.args.length y3, .slice x1 m.args.length y1] (Sort.grow (redrawn wr2 d) os) fun e w'' => e = .returned (.bool lk) ∧ ∃ p : Regrown, w'' = Sort.grow (redrawn wr2 p.d) p.os := by
                                    intro d os
                                    rw [hlk]
                                    exact Calls.regrown_of (l4Like B B x3 x1 y3 y1 x.args m.args hxs _ (SI.on HXI.out (Keep.of (below_over hwu2 (below_regrown wr2 d os)))) (SI.on HMV.out.1 (Keep.of (below_over hwu2 (below_regrown wr2 d os)))))
                                  cases lk
                                  · have HX : Hid (okP p = false) := HNO.out (okC_no (k := 0) hlt2 (by
                                      rw [HKK.out, hag.out, HST.out, HAX.out, ← hlk]; simp))
                                    clear hlk hag HST HAX
                                    go_wp2_with fail
                                    refine wp_region_quiet_below (by kernel_rfl) (by kernel_rfl) ?_
                                    repeat (go_big_quiet_step ((go_at_call 43; exact cL _ _)))
                                    refine wpQuiet_nil ?_
                                    intro _ hw'
                                    obtain ⟨⟨dq, osq⟩, hw''⟩ := hw'
                                    subst hw''
                                    have hbV := below_regrown wr2 dq osq
                                    have hwu3 : Below w.heap.size w (Sort.grow (redrawn wr2 dq) osq) := below_over hwu2 hbV
                                    clear a0 a1 a2 a3 a4 a5 cL q0 s0 s2 g1' g2' n1 n2 hbV hVu2 hwu2 BXW
                                    generalize Sort.grow (redrawn wr2 dq) osq = wr3 at *
                                    go_wp2
                                    go_ret
                                    exact ⟨retB HX.out.symm, hwu3⟩
                                  · by_cases hgv : x.gives = m.gives
                                    · have HT : Hid (agreeF p m 6 c.super = agreeF p m 6 cu.super) := by
                                        show _ = _
                                        rw [hag.out, HST.out, HAX.out, ← hlk]; simp [hgv]
                                      rw [hgv] at a3 g2'
                                      clear hlk hag HST HAX hgv
                                      have hgb : (m.gives != m.gives) = false := by simp
                                      go_wp2_with fail
                                      refine wp_region_quiet_below (by kernel_rfl) (by kernel_rfl) ?_
                                      repeat (go_big_quiet_step ((go_at_call 43; exact cL _ _)))
                                      refine wpQuiet_nil ?_
                                      intro _ hw'
                                      obtain ⟨⟨dq, osq⟩, hw''⟩ := hw'
                                      subst hw''
                                      have hbV := below_regrown wr2 dq osq
                                      have hVu3 : Below V.heap.size V (Sort.grow (redrawn wr2 dq) osq) := below_over hVu2 hbV
                                      have q3 := a0 dq osq
                                      have s3 := cell_regrown s0 dq osq
                                      clear a0 a1 a2 a3 a4 a5 cL q0 s0 s2 g1' g2' n1 n2 hbV hVu2 hwu2 BXW
                                      generalize Sort.grow (redrawn wr2 dq) osq = wr3 at *
                                      go_wp2
                                      go_roundw
                                      case rel => exact ⟨cu.super, rfl, hsu1, by omega, HT.out, hVu3⟩
                                      case measure => simp [intOf]; omega
                                    · have HX : Hid (okP p = false) := HNO.out (okC_no (k := 0) hlt2 (by
                                        rw [HKK.out, hag.out, HST.out, HAX.out]; simp [hgv]))
                                      have hgb : (x.gives != m.gives) = true := by simpa using hgv
                                      clear hlk hag HST HAX hgv
                                      go_wp2_with fail
                                      refine wp_region_quiet_below (by kernel_rfl) (by kernel_rfl) ?_
                                      repeat (go_big_quiet_step ((go_at_call 43; exact cL _ _)))
                                      refine wpQuiet_nil ?_
                                      intro _ hw'
                                      obtain ⟨⟨dq, osq⟩, hw''⟩ := hw'
                                      subst hw''
                                      have hbV := below_regrown wr2 dq osq
                                      have hwu3 : Below w.heap.size w (Sort.grow (redrawn wr2 dq) osq) := below_over hwu2 hbV
                                      clear a0 a1 a2 a3 a4 a5 cL q0 s0 s2 g1' g2' n1 n2 hbV hVu2 hwu2 BXW
                                      generalize Sort.grow (redrawn wr2 dq) osq = wr3 at *
                                      go_wp2
                                      go_ret
                                      exact ⟨retB HX.out.symm, hwu3⟩
                        | succ j =>
                          have hj : j < c.meths.length := by omega
                          have HK : Hid (okK p c (j + 1) = (okMB p.length c.meths[j + 1] && decide (c.meths[j].name < c.meths[j + 1].name) && agreeF p c.meths[j + 1] 6 c.super)) := okK_succ' (List.getElem?_eq_getElem hlt2) (List.getElem?_eq_getElem hj)
                          obtain ⟨bj, oj, hbj, _, va', vc', g0, _⟩ := HM.out.get hj
                          simp at hbj
                          obtain ⟨rfl, rfl⟩ := hbj
                          have v0 := (hwM.cell (p := ⟨bm, om + j * 4, none⟩) lm).trans g0
                          clear g0
                          generalize c.meths[j + 1] = m at *
                          generalize c.meths[j] = pv at *
                          have hwj : IntKind.i64.wrap (j : Int) = (j : Int) := by simp [IntKind.wrap, IntKind.signed, IntKind.bits]; omega
                          have hji : (j : Int) < (c.meths.length : Int) := by omega
                          have hj1 : (0 : Int) < (j : Int) + 1 := by omega
                          have hcast : ((j + 1 : Nat) : Int) = (j : Int) + 1 := by omega
                          go_wp2_with fail
                          rw [← hWM]
                          clear hWM m0 m1 m2 m3 cq2
                          generalize hgm : wr.heap.size = gm at *
                          clear hbM hbm hgm hwm
                          have r5 := cell_regrown v0
                          cases mo
                          · have HX : Hid (okP p = false) := HNO.out (okC_no (k := j + 1) hlt2 (by rw [HK.out, ← HMO.out]; rfl))
                            refine wp_region_quiet_below (by kernel_rfl) (by kernel_rfl) ?_
                            repeat (go_big_quiet_step ((go_at_call 41; exact cM _ _)))
                            refine wpQuiet_nil ?_
                            intro _ hw'
                            obtain ⟨⟨dq, osq⟩, hw''⟩ := hw'
                            subst hw''
                            have hbV := below_regrown WM dq osq
                            have hwV : Below w.heap.size w (Sort.grow (redrawn WM dq) osq) := below_over hwM hbV
                            have hCV : Below WC.heap.size WC (Sort.grow (redrawn WM dq) osq) := below_over hCM hbV
                            have BXV : Hid (Boxes w.heap.size gc gm p c m b o cap z1 (some ⟨bm, om, none⟩) x1 x2 t1 t2 y1 y2 (Sort.grow (redrawn WM dq) osq)) := BXM.out.on hbV
                            clear hbV r0 r1 r2 r3 r4 cM mb0 mb1 mb2 mb3 cb2 v0 r5
                            generalize Sort.grow (redrawn WM dq) osq = V at *
                            go_wp2
                            go_ret
                            exact ⟨retB HX.out.symm, hwV⟩
                          · by_cases hle : m.name ≤ pv.name
                            · have HX : Hid (okP p = false) := HNO.out (okC_no (k := j + 1) hlt2 (by
                                rw [HK.out]
                                have : decide (pv.name < m.name) = false := by simp; omega
                                rw [this]; simp))
                              refine wp_region_quiet_below (by kernel_rfl) (by kernel_rfl) ?_
                              repeat (go_big_quiet_step ((go_at_call 41; exact cM _ _)))
                              refine wpQuiet_nil ?_
                              intro _ hw'
                              obtain ⟨⟨dq, osq⟩, hw''⟩ := hw'
                              subst hw''
                              have hbV := below_regrown WM dq osq
                              have hwV : Below w.heap.size w (Sort.grow (redrawn WM dq) osq) := below_over hwM hbV
                              have hCV : Below WC.heap.size WC (Sort.grow (redrawn WM dq) osq) := below_over hCM hbV
                              have BXV : Hid (Boxes w.heap.size gc gm p c m b o cap z1 (some ⟨bm, om, none⟩) x1 x2 t1 t2 y1 y2 (Sort.grow (redrawn WM dq) osq)) := BXM.out.on hbV
                              clear hbV r0 r1 r2 r3 r4 cM mb0 mb1 mb2 mb3 cb2 v0 r5
                              generalize Sort.grow (redrawn WM dq) osq = V at *
                              go_wp2
                              go_ret
                              exact ⟨retB HX.out.symm, hwV⟩
                            · have HKK : Hid (okK p c (j + 1) = agreeF p m 6 c.super) := by
                                show _ = _
                                have : decide (pv.name < m.name) = true := by simp; omega
                                rw [HK.out, ← HMO.out, this, Bool.true_and, Bool.true_and]
                              refine wp_region_quiet_below (by kernel_rfl) (by kernel_rfl) ?_
                              repeat (go_big_quiet_step ((go_at_call 41; exact cM _ _)))
                              refine wpQuiet_nil ?_
                              intro _ hw'
                              obtain ⟨⟨dq, osq⟩, hw''⟩ := hw'
                              subst hw''
                              have hbV := below_regrown WM dq osq
                              have hwV : Below w.heap.size w (Sort.grow (redrawn WM dq) osq) := below_over hwM hbV
                              have hCV : Below WC.heap.size WC (Sort.grow (redrawn WM dq) osq) := below_over hCM hbV
                              have BXV : Hid (Boxes w.heap.size gc gm p c m b o cap z1 (some ⟨bm, om, none⟩) x1 x2 t1 t2 y1 y2 (Sort.grow (redrawn WM dq) osq)) := BXM.out.on hbV
                              clear hbV r0 r1 r2 r3 r4 cM mb0 mb1 mb2 mb3 cb2 v0 r5 HK HMO hle hwj
                              generalize Sort.grow (redrawn WM dq) osq = V at *
                              obtain ⟨cc0, _⟩ := BXV.out.cb.g0
                              go_wp2
                              clear cc0
                              go_loopw [9] (fun v wr => ∃ u : Int, v = .int .i64 u ∧ -1 ≤ u ∧ u < (i : Int) ∧ Hid (agreeF p m 6 c.super = agreeF p m 6 u) ∧ Below V.heap.size V wr) (fun v _ => (intOf v + 1).toNat)
                              case atStart => exact ⟨c.super, rfl, hs1, hs2, rfl, Below.refl _ _⟩
                              case round =>
                                obtain ⟨u, rfl, hu0, hu1, hag, hbu⟩ := hrel
                                have hwu : Below w.heap.size w wr := below_over hwV hbu
                                have hCu : Below WC.heap.size WC wr := below_over hCV hbu
                                have BXU : Hid (Boxes w.heap.size gc gm p c m b o cap z1 (some ⟨bm, om, none⟩) x1 x2 t1 t2 y1 y2 wr) := BXV.out.on hbu
                                by_cases hneg : u < 0
                                · have HY : Hid (∀ jj, jj < (j + 1) + 1 → okK p c jj = true) := fun jj hj => by
                                    by_cases e : jj = j + 1
                                    · rw [e, HKK.out, hag.out]; exact agreeF_neg p m 6 hneg
                                    · exact hmall.out jj (by omega)
                                  have hng : ¬ (0 : Int) ≤ u := by omega
                                  clear hag
                                  go_wp2
                                  go_roundw
                                  case rel => exact ⟨(j + 1) + 1, by omega, by go_num, HY.out, hCu⟩
                                  case measure => simp [intOf]; omega
                                · obtain ⟨j2, rfl⟩ := Int.eq_ofNat_of_zero_le (show 0 ≤ u by omega)
                                  have hjp : j2 < p.length := by omega
                                  have hj2i : (j2 : Int) < (p.length : Int) := by omega
                                  have hj20 : (0 : Int) ≤ (j2 : Int) := by omega
                                  obtain ⟨b2, o2, hbo2, _, uf, um, e0, e1, e2, hcu⟩ := HP.out.get hjp
                                  simp at hbo2
                                  obtain ⟨rfl, rfl⟩ := hbo2
                                  obtain ⟨z3, t3, rfl⟩ := hcu.1.form
                                  obtain ⟨z4, t4, rfl⟩ := hcu.2.form
                                  have k0 := (hwu.cell l0).trans e0
                                  have k1 := (hwu.cell l0).trans e1
                                  have k2 := (hwu.cell l0).trans e2
                                  have HSM2 : Hid (SM front B w (.slice z4 p[j2].meths.length t4) p[j2].meths) := hcu.2
                                  have hsc2 := HSP.out.2 _ (List.getElem_mem hjp)
                                  have HSMM2 : Hid (∀ m ∈ p[j2].meths, SmallM m) := hsc2.2.2
                                  have hsl2 := hsc2.2.1
                                  have HST : Hid (agreeF p m 6 (j2 : Int) = (agree1 p[j2] m && agreeF p m 6 p[j2].super)) := agreeF_step HSUP.out m (by omega) (by omega) (List.getElem?_eq_getElem hjp)
                                  have hsu := HSUP.out j2 _ (by omega) (List.getElem?_eq_getElem hjp)
                                  have hsu1 := hsu.1
                                  have hsu2 := hsu.2
                                  generalize p[j2] = cu at *
                                  clear hcu hsc2 hsu e0 e1 e2 hneg
                                  obtain ⟨q0, _⟩ := BXU.out.pb.g0
                                  obtain ⟨q1, _⟩ := BXU.out.mb.g0
                                  have r0 := cell_regrown k0
                                  have r1 := cell_regrown k1
                                  have r2 := cell_regrown k2
                                  have r3 := cell_regrown q0
                                  have r4 := cell_regrown q1
                                  obtain ⟨at', hat⟩ : ∃ at', at' = ownI cu m.name := ⟨_, rfl⟩
                                  have cO : ∀ d os, Calls Tryz.prog 42 #[.agg #[.int .i64 cu.super, .slice z3 cu.fields.length t3, .slice z4 cu.meths.length t4], .int .i64 m.name] (Sort.grow (redrawn wr d) os) fun e w'' => e = .returned (.int .i64 at') ∧ ∃ p : Regrown, w'' = Sort.grow (redrawn wr p.d) p.os := by
                                    intro d os
                                    rw [hat]
                                    exact Calls.regrown_of (l4Own B cu z3 z4 t4 cu.fields.length t3 m.name hsl2 _ (SM.on HSM2.out (Keep.of (below_over hwu (below_regrown wr d os)))))
                                  have HAT2 : Hid (at' = ownI cu m.name) := hat
                                  clear hat
                                  go_wp2_with fail
                                  refine wp_region_quiet_below (by kernel_rfl) (by kernel_rfl) ?_
                                  repeat (go_big_quiet_step ((go_at_call 42; exact cO _ _)))
                                  refine wpQuiet_nil ?_
                                  intro _ hw'
                                  obtain ⟨⟨dq, osq⟩, hw''⟩ := hw'
                                  subst hw''
                                  have hbV := below_regrown wr dq osq
                                  have hwu2 : Below w.heap.size w (Sort.grow (redrawn wr dq) osq) := below_over hwu hbV
                                  have hVu2 : Below V.heap.size V (Sort.grow (redrawn wr dq) osq) := below_over hbu hbV
                                  have BXW : Hid (Boxes w.heap.size gc gm p c m b o cap z1 (some ⟨bm, om, none⟩) x1 x2 t1 t2 y1 y2 (Sort.grow (redrawn wr dq) osq)) := BXU.out.on hbV
                                  have s0 := r0 dq osq
                                  have s2 := r2 dq osq
                                  clear r0 r1 r2 r3 r4 cO k0 k1 k2 q0 q1 hbV hbu hwu hCu BXU
                                  generalize Sort.grow (redrawn wr dq) osq = wr2 at *
                                  obtain ⟨q0, _⟩ := BXW.out.pb.g0
                                  have a0 := cell_regrown q0
                                  have a1 := cell_regrown s2
                                  rcases ownI_cases cu m.name with ⟨hI, hF⟩ | ⟨kk, x, hkk, hx, hI, hF⟩
                                  · have hat1 : at' = -1 := by rw [HAT2.out]; exact hI
                                    subst hat1
                                    have HT : Hid (agreeF p m 6 c.super = agreeF p m 6 cu.super) := by
                                      show _ = _
                                      rw [hag.out, HST.out]; simp [agree1, hF]
                                    clear hI hF HAT2 hag HST
                                    go_wp2_with fail
                                    refine wp_region_quiet_below (by kernel_rfl) (by kernel_rfl) ?_
                                    repeat (go_big_quiet_step (fail))
                                    refine wpQuiet_nil ?_
                                    intro _ hw'
                                    obtain ⟨⟨dq, osq⟩, hw''⟩ := hw'
                                    subst hw''
                                    have hbV := below_regrown wr2 dq osq
                                    have hVu3 : Below V.heap.size V (Sort.grow (redrawn wr2 dq) osq) := below_over hVu2 hbV
                                    have q3 := a0 dq osq
                                    have s3 := cell_regrown s0 dq osq
                                    clear a0 a1 q0 s0 s2 hbV hVu2 hwu2 BXW
                                    generalize Sort.grow (redrawn wr2 dq) osq = wr3 at *
                                    go_wp2
                                    go_roundw
                                    case rel => exact ⟨cu.super, rfl, hsu1, by omega, HT.out, hVu3⟩
                                    case measure => simp [intOf]; omega
                                  · have hat1 : at' = (kk : Int) := by rw [HAT2.out]; exact hI
                                    subst hat1
                                    have hkki : (kk : Int) < (cu.meths.length : Int) := by omega
                                    have hkk0 : (0 : Int) ≤ (kk : Int) := by omega
                                    obtain ⟨bx, ox, rfl, _, wa, wc, g0, g1, g2, g3, hxv⟩ := HSM2.out.get hkk
                                    obtain ⟨x3, y3, rfl⟩ := hxv.1.form
                                    have exx : cu.meths[kk] = x := by
                                      rw [List.getElem?_eq_getElem hkk] at hx
                                      simpa using hx
                                    rw [exx] at g1 g2 hxv
                                    have lx : bx < w.heap.size := cell_lt g1
                                    have g1' := (hwu2.cell lx).trans g1
                                    have g2' := (hwu2.cell lx).trans g2
                                    have HXI : Hid (SI true B w (.slice x3 x.args.length y3) x.args) := hxv.1
                                    have hxs := (HSMM2.out x (List.mem_of_getElem? hx)).1
                                    have HAX : Hid (agree1 cu m = (decide (x.args = m.args) && decide (x.gives = m.gives))) := by show _ = _; simp [agree1, hF]
                                    clear hI hF HAT2 g0 g1 g2 g3 hxv exx hx
                                    obtain ⟨n1, _⟩ := BXW.out.mb.g1
                                    obtain ⟨n2, _⟩ := BXW.out.mb.g2
                                    have a2 := cell_regrown g1'
                                    have a3 := cell_regrown g2'
                                    have a4 := cell_regrown n1
                                    have a5 := cell_regrown n2
                                    obtain ⟨lk, hlk⟩ : ∃ lk, lk = decide (x.args = m.args) := ⟨_, rfl⟩
                                    have cL : ∀ d os, Calls Tryz.prog 43 #[.slice x3 x.args.length y3, .slice x1 m.args.length y1] (Sort.grow (redrawn wr2 d) os) fun e w'' => e = .returned (.bool lk) ∧ ∃ p : Regrown, w'' = Sort.grow (redrawn wr2 p.d) p.os := by
                                      intro d os
                                      rw [hlk]
                                      exact Calls.regrown_of (l4Like B B x3 x1 y3 y1 x.args m.args hxs _ (SI.on HXI.out (Keep.of (below_over hwu2 (below_regrown wr2 d os)))) (SI.on HMV.out.1 (Keep.of (below_over hwu2 (below_regrown wr2 d os)))))
                                    cases lk
                                    · have HX : Hid (okP p = false) := HNO.out (okC_no (k := j + 1) hlt2 (by
                                        rw [HKK.out, hag.out, HST.out, HAX.out, ← hlk]; simp))
                                      clear hlk hag HST HAX
                                      go_wp2_with fail
                                      refine wp_region_quiet_below (by kernel_rfl) (by kernel_rfl) ?_
                                      repeat (go_big_quiet_step ((go_at_call 43; exact cL _ _)))
                                      refine wpQuiet_nil ?_
                                      intro _ hw'
                                      obtain ⟨⟨dq, osq⟩, hw''⟩ := hw'
                                      subst hw''
                                      have hbV := below_regrown wr2 dq osq
                                      have hwu3 : Below w.heap.size w (Sort.grow (redrawn wr2 dq) osq) := below_over hwu2 hbV
                                      clear a0 a1 a2 a3 a4 a5 cL q0 s0 s2 g1' g2' n1 n2 hbV hVu2 hwu2 BXW
                                      generalize Sort.grow (redrawn wr2 dq) osq = wr3 at *
                                      go_wp2
                                      go_ret
                                      exact ⟨retB HX.out.symm, hwu3⟩
                                    · by_cases hgv : x.gives = m.gives
                                      · have HT : Hid (agreeF p m 6 c.super = agreeF p m 6 cu.super) := by
                                          show _ = _
                                          rw [hag.out, HST.out, HAX.out, ← hlk]; simp [hgv]
                                        rw [hgv] at a3 g2'
                                        clear hlk hag HST HAX hgv
                                        have hgb : (m.gives != m.gives) = false := by simp
                                        go_wp2_with fail
                                        refine wp_region_quiet_below (by kernel_rfl) (by kernel_rfl) ?_
                                        repeat (go_big_quiet_step ((go_at_call 43; exact cL _ _)))
                                        refine wpQuiet_nil ?_
                                        intro _ hw'
                                        obtain ⟨⟨dq, osq⟩, hw''⟩ := hw'
                                        subst hw''
                                        have hbV := below_regrown wr2 dq osq
                                        have hVu3 : Below V.heap.size V (Sort.grow (redrawn wr2 dq) osq) := below_over hVu2 hbV
                                        have q3 := a0 dq osq
                                        have s3 := cell_regrown s0 dq osq
                                        clear a0 a1 a2 a3 a4 a5 cL q0 s0 s2 g1' g2' n1 n2 hbV hVu2 hwu2 BXW
                                        generalize Sort.grow (redrawn wr2 dq) osq = wr3 at *
                                        go_wp2
                                        go_roundw
                                        case rel => exact ⟨cu.super, rfl, hsu1, by omega, HT.out, hVu3⟩
                                        case measure => simp [intOf]; omega
                                      · have HX : Hid (okP p = false) := HNO.out (okC_no (k := j + 1) hlt2 (by
                                          rw [HKK.out, hag.out, HST.out, HAX.out]; simp [hgv]))
                                        have hgb : (x.gives != m.gives) = true := by simpa using hgv
                                        clear hlk hag HST HAX hgv
                                        go_wp2_with fail
                                        refine wp_region_quiet_below (by kernel_rfl) (by kernel_rfl) ?_
                                        repeat (go_big_quiet_step ((go_at_call 43; exact cL _ _)))
                                        refine wpQuiet_nil ?_
                                        intro _ hw'
                                        obtain ⟨⟨dq, osq⟩, hw''⟩ := hw'
                                        subst hw''
                                        have hbV := below_regrown wr2 dq osq
                                        have hwu3 : Below w.heap.size w (Sort.grow (redrawn wr2 dq) osq) := below_over hwu2 hbV
                                        clear a0 a1 a2 a3 a4 a5 cL q0 s0 s2 g1' g2' n1 n2 hbV hVu2 hwu2 BXW
                                        generalize Sort.grow (redrawn wr2 dq) osq = wr3 at *
                                        go_wp2
                                        go_ret
                                        exact ⟨retB HX.out.symm, hwu3⟩
                      · have HX : Hid (okCB p i c = true) := okC_done' hs1 hs2 h4 HTY.out h4m (fun j hj => hmall.out j (by omega))
                        have HY : Hid (∀ j, j < i + 1 → okAt p j = true) := HYES.out HX.out
                        have hWm : Below W.heap.size W wr := below_over hWC' hbm
                        obtain ⟨cq2, _⟩ := (CB.out.on hbm).g2
                        go_wp2
                        go_roundw
                        case rel => exact ⟨i + 1, by omega, by go_num, HY.out, hWm⟩
                        case measure => simp [intOf]; omega
              · have h4j : (4 : Int) < (c.meths.length : Int) := by omega
                have HX : Hid (okP p = false) := HNO.out (by rw [okC_split']; simp [h4m])
                go_wp2
                go_ret
                rw [← hWC]
                exact ⟨retB HX.out.symm, hwC⟩
            · have h4i : (4 : Int) < (c.fields.length : Int) := by omega
              have HX : Hid (okP p = false) := HNO.out (by rw [okC_split']; simp [h4])
              go_wp2
              go_ret
              rw [← hWC]
              exact ⟨retB HX.out.symm, hwC⟩
          · have hs2' : (i : Int) ≤ c.super := by omega
            have HX : Hid (okP p = false) := HNO.out (by rw [okC_split']; simp [hs2])
            go_wp2
            go_ret
            rw [← hWC]
            exact ⟨retB HX.out.symm, hwC⟩
        · have hs1' : c.super < -1 := by omega
          have HX : Hid (okP p = false) := HNO.out (by rw [okC_split']; simp [hs1])
          go_wp2
          go_ret
          rw [← hWC]
          exact ⟨retB HX.out.symm, hwC⟩
      · have HMN : Hid (okP p = mainOk p) := okP_main h1 h6 (fun j hj => hall.out j (by omega))
        have h0 : 0 < p.length := by omega
        have h0i : (0 : Int) < (p.length : Int) := by omega
        obtain ⟨b', o', hbo, _, vf, vm, d0, d1, d2, hcv⟩ := HP.out.get h0
        simp at hbo
        obtain ⟨rfl, rfl⟩ := hbo
        obtain ⟨z1, t1, rfl⟩ := hcv.1.form
        obtain ⟨z2, t2, rfl⟩ := hcv.2.form
        have l0 : b < w.heap.size := cell_lt d0
        have c0 := (hwr.cell l0).trans d0
        have c1 := (hwr.cell l0).trans d1
        have c2 := (hwr.cell l0).trans d2
        simp only [Nat.zero_mul, Nat.add_zero] at c0 c1 c2
        have HM : Hid (SM front B w (.slice z2 p[0].meths.length t2) p[0].meths) := hcv.2
        have hsm := (HSP.out.2 _ (List.getElem_mem h0)).2.1
        have HMO : Hid ((ownF p[0] 0 = none → mainOk p = false) ∧ ∀ m, ownF p[0] 0 = some m → mainOk p = (decide (m.args.length = 0) && decide (m.gives = -1))) := mainOk_of' (List.getElem?_eq_getElem h0)
        generalize p[0] = c at *
        clear hcv d0 d1 d2 hall
        have PR : Hid (Cells wr w.heap.size [.slice (some ⟨b, o, none⟩) p.length cap]) := P0.out.on hb
        go_wp2_with fail
        refine (l4Own B c z1 z2 t2 c.fields.length t1 0 hsm _ (SM.on HM.out (Keep.of hwr))).mono ?_
        rintro e w1 ⟨rfl, hb1⟩
        have hw1 : Below w.heap.size w w1 := below_over hwr hb1
        obtain ⟨q0, _⟩ := (PR.out.on hb1).g0
        have k2 := (hb1.cell (Nat.lt_of_lt_of_le l0 hwr.size)).trans c2
        clear hb1 c0 c1 c2 pp0 PR
        rcases ownI_cases c 0 with ⟨hI, hF⟩ | ⟨kk, x, hkk, hx, hI, hF⟩
        · have HX : Hid (okP p = false) := by show _ = _; rw [HMN.out]; exact HMO.out.1 hF
          rw [hI]
          go_wp2
          go_ret
          exact ⟨retB HX.out.symm, hw1⟩
        · have HX : Hid (okP p = (decide (x.args.length = 0) && decide (x.gives = -1))) := by show _ = _; rw [HMN.out]; exact HMO.out.2 x hF
          rw [hI]
          have hkki : (kk : Int) < (c.meths.length : Int) := by omega
          obtain ⟨bx, ox, rfl, _, wa, wc, g0, g1, g2, g3, hxv⟩ := HM.out.get hkk
          have exx : c.meths[kk] = x := by
            rw [List.getElem?_eq_getElem hkk] at hx
            simpa using hx
          obtain ⟨x3, y3, rfl⟩ := hxv.1.form
          rw [exx] at g1 g2
          have lx : bx < w.heap.size := cell_lt g1
          have g1' := (hw1.cell lx).trans g1
          have g2' := (hw1.cell lx).trans g2
          clear hI hF g0 g1 g2 g3 hxv exx hx HMN HMO
          by_cases ha : x.args.length = 0
          · have hai : ((x.args.length : Int) == 0) = true := by simp [ha]
            by_cases hg : x.gives = -1
            · have hgb : (x.gives == -1) = true := by simpa using hg
              have HX2 : Hid (okP p = true) := by show _ = _; rw [HX.out]; simp [ha, hg]
              clear HX ha hg
              go_wp2
              go_ret
              exact ⟨retB HX2.out.symm, hw1⟩
            · have hgb : (x.gives == -1) = false := by simpa using hg
              have HX2 : Hid (okP p = false) := by show _ = _; rw [HX.out]; simp [hg]
              clear HX ha hg
              go_wp2
              go_ret
              exact ⟨retB HX2.out.symm, hw1⟩
          · have hai : ((x.args.length : Int) == 0) = false := by
              have : ¬ (x.args.length : Int) = 0 := by omega
              simpa using this
            have HX2 : Hid (okP p = false) := by show _ = _; rw [HX.out]; simp [ha]
            clear HX ha
            go_wp2
            go_ret
            exact ⟨retB HX2.out.symm, hw1⟩
  · have HX : Hid (okP p = false) := by
      show _ = _
      by_cases h0 : p.length < 1
      · exact okP_few h0
      · exact okP_many (by omega)
    by_cases h0 : (p.length : Int) < 1
    · go_enter Tryz.func24, Tryz.ntmps24
      go_wp2
      go_ret
      exact ⟨retB HX.out.symm, (Below.refl _ _).alloc (Nat.le_refl _) _⟩
    · have h7 : (6 : Int) < (p.length : Int) := by omega
      go_enter Tryz.func24, Tryz.ntmps24
      go_wp2
      go_ret
      exact ⟨retB HX.out.symm, (Below.refl _ _).alloc (Nat.le_refl _) _⟩
end Pg
end Go.Proofs.YtinanjjhkddikaaGreat

/- The step, op by op: 16. -/
import Derived.Test.YtffkkhaiedhaiaaJMtG
namespace Go.Proofs.Ytffkkhaiedhaiaa
namespace Pg
open Go.ChangeShapes Go.WideShapes Go.ChangeAt Go.RowKit St Wd

variable {Bp : Nat} {p : Prg} {bp po cap B M : Nat} {m : Mc} {q : Nat} {f : Fr} {own : Meth} {op A Bi : Int} {b2 b6 bi bt G fcap : Nat} {vS vL vh vs vA : Value} {gc cc : Nat} {ch cf : List (List Value)} {Th Tf : Nat → Nat → Nat → Prop} {w0 w : World}
set_option maxRecDepth 100000 in
set_option maxHeartbeats 4000000 in
theorem stepOp16 (C : StepC Bp p bp po cap B M m q f own 16 A Bi b2 b6 bi bt G fcap vS vL vh vs vA gc cc ch cf Th Tf w0 w) (R : Ending → World → Prop)
    (hR : ∀ w', MSt B M w' (stepI p m f own (16, A, Bi)).1 → Below B w w' → R (.returned (.int .i64 (stepI p m f own (16, A, Bi)).2)) w') (K : Act → World → Prop) (hK : ∀ a w', Code.wp Try.prog (c8 [true, true, true, true, true, true, true, true, true, true, true, true, true, true, true]) (bodyPost Try.prog Try.f56 R) a w' → K a w')
    {u0 u3 u4 u14 u15 u16 u17 u18 u19 u20 u21 u22 u23 u24 u25 u26 u27 u28 u29 u30 u31 u32 u33 u34 u35 u36 u37 u38 u39 u40 u41 u42 u43 u44 u45 u46 u47 u48 u49 u50 u51 u52 u53 u54 u55 u56 u57 u58 u59 u60 u61 u62 u63 u64 u65 u66 u67 u68 u69 u70 u71 u72 u73 u74 u75 u76 u77 u78 u79 u80 u81 u82 u83 u84 u85 u86 u87 u88 u89 u90 u91 u92 u93 u94 u95 u96 u97 u98 u99 u100 u101 u102 u103 u104 u105 u106 u107 u108 u109 u110 u111 u112 u113 u114 u115 u116 u117 u118 u119 u120 u121 u122 u123 u124 u125 u126 u127 u128 u129 u130 u131 u132 u133 u134 u135 u136 u137 u138 u139 u140 u141 u142 u143 u144 u145 u146 : Value} : Code.wp Try.prog (c8 [true, true, true, true, true, true, true, true, true, true, true, true, true, true, false]) (Exit.then K (bodyPost Try.prog Try.f56 R)) { tmps := #[u0, .pointer (some ⟨M, 0, none⟩), .pointer (some ⟨b2, 0, none⟩), u3, u4, .pointer (some ⟨G, q * 5, none⟩), .pointer (some ⟨b6, 0, none⟩), .pointer (some ⟨bi, 0, none⟩), .int .i64 (f.stk.length : Int), .int .i64 (takesS 16 : Int), .pointer (some ⟨bt, 0, none⟩), .pointer (some ⟨bt + 1, 0, none⟩), .slice (some ⟨w.heap.size, 0, none⟩) 0 0, undef, u14, u15, u16, u17, u18, u19, u20, u21, u22, u23, u24, u25, u26, u27, u28, u29, u30, u31, u32, u33, u34, u35, u36, u37, u38, u39, u40, u41, u42, u43, u44, u45, u46, u47, u48, u49, u50, u51, u52, u53, u54, u55, u56, u57, u58, u59, u60, u61, u62, u63, u64, u65, u66, u67, u68, u69, u70, u71, u72, u73, u74, u75, u76, u77, u78, u79, u80, u81, u82, u83, u84, u85, u86, u87, u88, u89, u90, u91, u92, u93, u94, u95, u96, u97, u98, u99, u100, u101, u102, u103, u104, u105, u106, u107, u108, u109, u110, u111, u112, u113, u114, u115, u116, u117, u118, u119, u120, u121, u122, u123, u124, u125, u126, u127, u128, u129, u130, u131, u132, u133, u134, u135, u136, u137, u138, u139, u140, u141, u142, u143, u144, u145, u146, undef, undef, undef, undef, undef, undef, undef, undef, undef, undef, undef, undef, undef, undef, undef, undef, undef, undef, undef, undef, undef, undef, undef, undef, undef, undef, undef, undef, undef, undef, undef, undef, undef, undef, undef, undef, undef, undef, undef, undef, undef, undef, undef, undef, undef, undef, undef, undef, undef, undef, undef, undef, undef, undef, undef, undef, undef, undef, undef, undef, undef, undef, undef, undef, undef, undef, undef, undef, undef, undef, undef, undef, undef, undef, undef, undef, undef, undef, undef, undef, undef, undef, undef, undef, undef, undef, undef, undef, undef, undef, undef, undef, undef, undef, undef, undef, undef, undef, undef, undef, undef, undef, undef, undef, undef, undef, undef, undef, undef, undef, undef, undef, undef, undef, undef, undef, undef, undef, undef, undef, undef, undef, undef, undef, undef, undef, undef, undef, undef, undef, undef, undef, undef, undef, undef, undef, undef, undef, undef, undef, undef, undef, undef, undef, undef, undef, undef, undef, undef, undef, undef, undef, undef, undef, undef, undef, undef, undef, undef, undef, undef, undef, undef, undef, undef, undef, undef, undef, undef, undef, undef, undef, undef, undef, undef, undef, undef, undef, undef, undef, undef, undef, undef, undef, undef, undef, undef, undef, undef, undef, undef, undef, undef, undef, undef, undef, undef, undef, undef, undef, undef, undef, undef, undef, undef, undef, undef, undef, undef, undef, undef, undef, undef, undef, undef, undef, undef, undef, undef, undef, undef, undef, undef, undef, undef, undef, undef, undef, undef, undef, undef, undef, undef, undef, undef, undef, undef, undef, undef, undef, undef, undef, undef, undef, undef, undef, undef, undef, undef, undef, undef, undef, undef, undef, undef, undef, undef, undef, undef, undef, undef, undef, undef, undef, undef, undef, undef, undef, undef, undef, undef, undef, undef, undef, undef, undef, undef, undef, undef, undef, undef, undef, undef, undef, undef, undef, undef, undef, undef, undef, undef, undef, undef, undef, undef, undef, undef, undef, undef, undef, undef, undef, undef, undef, undef, undef, undef, undef, undef, undef, undef, undef, undef, undef, undef, undef, undef, undef, undef, undef, undef, undef, undef, undef, undef, undef, undef, undef, undef, undef, undef, undef, undef, undef, undef, undef, undef, undef, undef, undef, undef, undef, undef, undef, undef, undef, undef, undef, undef, undef, undef, undef, undef, undef, undef, undef, undef, undef, undef, undef, undef, undef, undef, undef, undef, undef, undef, undef, undef, undef, undef, undef, undef, undef, undef, undef], defers := [] } (w.alloc (.cells #[] 57)) := by
  have hX : Below w.heap.size w (w.alloc (.cells #[] 57)) := (Below.refl _ _).alloc (Nat.le_refl _) _
  have ci := (C.CI.on hX).g0.1
  have ci1 := (C.CI.on hX).g1.1
  have ci2 := (C.CI.on hX).g2.1
  have p0 := (C.P2.on hX).g0.1
  have HR : Hid (∀ w', MSt B M w' (stepI p m f own (16, A, Bi)).1 → Below B w w' → R (.returned (.int .i64 (stepI p m f own (16, A, Bi)).2)) w') := hR
  clear hR
  have hA : (0 ≤ A ∧ A < 6) ∧ 0 ≤ Bi ∧ Bi < 4 := by have := C.okI; unfold Tx.okI Tx.limA Tx.limB at this; simp at this; omega
  have hs2 : 2 ≤ f.stk.length := by have := C.nt; simpa [takesS] using this
  obtain ⟨a, rfl⟩ := Int.eq_ofNat_of_zero_le hA.1.1
  obtain ⟨b, rfl⟩ := Int.eq_ofNat_of_zero_le hA.2.1
  have e1 := cell_regrown ci1
  have e2 := cell_regrown ci2
  have e3 := cell_regrown p0
  by_cases hpa : a < p.length
  · have hpl : ¬ (p.length : Int) ≤ (a : Int) := by omega
    have hpi : (a : Int) < (p.length : Int) := by omega
    have hbp : decide ((a : Int) ≥ (p.length : Int)) = false := by simp; omega
    obtain ⟨z1, t1, z2, t2, hcl⟩ := C.sk.cls hpa
    have d1 := (hcl _ (C.b0.trans (hX.mono C.b0.size))).2.1
    have HSI : Hid (∀ X, Below w0.heap.size w0 X → SI true Bp X (.slice z1 p[a].fields.length t1) p[a].fields) := fun X h => (hcl X h).2.2.2.1
    have e4 := cell_regrown d1
    have HFL : Hid (fldS p (a : Int) (b : Int) = (p[a].fields)[b]?) := by show _ = _; unfold fldS; rw [Int.toNat_natCast, List.getElem?_eq_getElem hpa, Int.toNat_natCast]
    by_cases hfb : b < p[a].fields.length
    · have hbf : decide ((b : Int) ≥ (p[a].fields.length : Int)) = false := by simp; omega
      have hbf2 : ¬ (p[a].fields.length : Int) ≤ (b : Int) := by omega
      have hbf3 : (b : Int) < (p[a].fields.length : Int) := by omega
      obtain ⟨ty, hty⟩ : ∃ ty, ty = (p[a].fields)[b] := ⟨_, rfl⟩
      have HFS : Hid (fldS p (a : Int) (b : Int) = some ty) := by show _ = _; rw [HFL.out, List.getElem?_eq_getElem hfb, hty]
      obtain ⟨fb, fo, hz, _, hfc⟩ := (HSI.out _ (C.b0.trans (hX.mono C.b0.size))).get hfb
      rw [← hty, Nat.mul_one] at hfc
      have hfc' : (w.alloc (.cells #[] 57)).cell? ⟨fb, fo + b, none⟩ = some (.int .i64 ty) := hfc
      subst hz
      have e5 := cell_regrown hfc'
      have hVT := valRefS (top_ok C.fok.sv (by omega))
      have hVN := valRefS (next_ok C.fok.sv hs2)
      obtain ⟨ah, chh, hvh⟩ := own_any C.T.own.h.own
      have m0 : (w.alloc (.cells #[] 57)).cell? ⟨M, 0, none⟩ = some (.slice ah m.heap.length chh) := by have := (C.TW.on hX).cells.g0.1; rw [hvh] at this; exact this
      have ct0 := (C.CT.on hX).g0.1
      have ct1 := (C.CT.on hX).g1.1
      have e6 := cell_regrown m0
      have e7 := cell_regrown ct0
      have e8 := cell_regrown ct1
      have cI : ∀ d os, Calls Try.prog 91 #[.agg #[.slice (some ⟨bp, po, none⟩) p.length cap], .pointer (some ⟨M, 0, none⟩), .agg #[.int .i64 (topV f.stk).1, .int .i64 (topV f.stk).2], .int .i64 ty] (Sort.grow (redrawn (w.alloc (.cells #[] 57)) d) os) fun e w'' => e = .returned (.bool (isS p m.heap (topV f.stk) ty)) ∧ ∃ q : Regrown, w'' = Sort.grow (redrawn (w.alloc (.cells #[] 57)) q.d) q.os := fun d os => by
        have hr := below_regrown (w.alloc (.cells #[] 57)) d os
        have hr2 : Below w.heap.size w (Sort.grow (redrawn (w.alloc (.cells #[] 57)) d) os) := below_over hX hr
        have hso := (C.TW.on hr2).own.h.so
        rw [hvh] at hso
        exact (l8Is_at Bp 0 p (some ⟨bp, po, none⟩) cap C.ok m.heap M ah chh (topV f.stk) hVT ty _ (SK.on C.skw (Keep.of hr2)) (cell_regrown m0 d os) hso).regrown_of
      cases hIs : isS p m.heap (topV f.stk) ty
      · have hsi : stepI p m f own (16, (a : Int), (b : Int)) = (m, 6) := by
          simp only [stepI]
          rw [if_neg C.step]
          simp [HFS.out, hIs]
        rw [hsi] at HR
        rw [hIs] at cI
        clear hIs hcl HSI hty HFL HFS hfc hfb
        generalize p[a].fields.length = nf at *
        unfold c8
        conv => arg 2; whnf
        go_upto_region 65 with fail
        refine wp_region_quiet_below (by kernel_rfl) (by kernel_rfl) ?_
        repeat (go_big_quiet_step ((go_at_call 91; exact cI _ _)))
        refine wpQuiet_nil ?_
        intro _ hw'
        obtain ⟨⟨dq, osq⟩, hw''⟩ := hw'
        subst hw''
        have hXq : Below w.heap.size w (Sort.grow (redrawn (w.alloc (.cells #[] 57)) dq) osq) := hX.trans ((below_regrown (w.alloc (.cells #[] 57)) dq osq).mono hX.size)
        generalize Sort.grow (redrawn (w.alloc (.cells #[] 57)) dq) osq = Y at *
        clear e1 e2 e3 e4 e5 e6 e7 e8 d1 cI m0 ct0 ct1 hfc' ci1 ci2 p0 ci
        go_wp2_with fail
        exact HR.out _ (C.TW.on hXq).st (hXq.mono (Nat.le_trans C.hB C.b0.size))
      · rw [hIs] at cI
        have HIS : Hid (isS p m.heap (topV f.stk) ty = true) := hIs
        clear hIs hcl HSI hty HFL hfc hfb
        generalize p[a].fields.length = nf at *
        unfold c8
        conv => arg 2; whnf
        go_upto_region 65 with fail
        refine wp_region_quiet_below (by kernel_rfl) (by kernel_rfl) ?_
        repeat (go_big_quiet_step ((go_at_call 91; exact cI _ _)))
        refine wpQuiet_nil ?_
        intro _ hw'
        obtain ⟨⟨dq, osq⟩, hw''⟩ := hw'
        subst hw''
        have hXq : Below w.heap.size w (Sort.grow (redrawn (w.alloc (.cells #[] 57)) dq) osq) := hX.trans ((below_regrown (w.alloc (.cells #[] 57)) dq osq).mono hX.size)
        generalize Sort.grow (redrawn (w.alloc (.cells #[] 57)) dq) osq = Y at *
        clear e1 e2 e3 e4 e5 e6 e7 e8 ci1 ci2 p0 d1 ci cI m0 ct0 ct1 hfc'
        have cn0 := (C.CN.on hXq).g0.1
        by_cases h3 : (nextV f.stk).1 = 3
        · have hsi : stepI p m f own (16, (a : Int), (b : Int)) = (m, 3) := by
            simp only [stepI]
            rw [if_neg C.step]
            simp [HFS.out, HIS.out, h3]
          rw [hsi] at HR
          rw [h3] at cn0
          go_wp2_with fail
          exact HR.out _ (C.TW.on hXq).st (hXq.mono (Nat.le_trans C.hB C.b0.size))
        · have hb3 : ((nextV f.stk).1 == 3) = false := by simp [h3]
          have hYw : Below w0.heap.size w0 Y := C.b0.trans (hXq.mono C.b0.size)
          have m0 : Y.cell? ⟨M, 0, none⟩ = some (.slice ah m.heap.length chh) := by have := (C.TW.on hXq).cells.g0.1; rw [hvh] at this; exact this
          have cO : ∀ d os, Calls Try.prog 89 #[.agg #[.slice (some ⟨bp, po, none⟩) p.length cap], .pointer (some ⟨M, 0, none⟩), .agg #[.int .i64 (nextV f.stk).1, .int .i64 (nextV f.stk).2], .int .i64 (a : Int)] (Sort.grow (redrawn Y d) os) fun e w'' => e = .returned (.bool (objS p m.heap (nextV f.stk) (a : Int))) ∧ ∃ q : Regrown, w'' = Sort.grow (redrawn Y q.d) q.os := fun d os => by
            have hr := below_regrown Y d os
            have hr2 : Below w.heap.size w (Sort.grow (redrawn Y d) os) := below_over hXq hr
            have hso := (C.TW.on hr2).own.h.so
            rw [hvh] at hso
            exact (l8Object_at Bp 0 p (some ⟨bp, po, none⟩) cap C.ok m.heap M ah chh (nextV f.stk) hVN (a : Int) _ (SK.on C.skw (Keep.of hr2)) (cell_regrown m0 d os) hso).regrown_of
          have p0 := (C.P2.on hXq).g0.1
          have cn1 := (C.CN.on hXq).g1.1
          have ci0 := (C.CI.on hXq).g0.1
          have ci1 := (C.CI.on hXq).g1.1
          have ci2 := (C.CI.on hXq).g2.1
          have r0 := cell_regrown p0
          have r1 := cell_regrown cn0
          have r2 := cell_regrown cn1
          have r3 := cell_regrown ci0
          have r4 := cell_regrown ci1
          have r5 := cell_regrown ci2
          have r6 := cell_regrown m0
          cases ho : objS p m.heap (nextV f.stk) (a : Int)
          · have hsi : stepI p m f own (16, (a : Int), (b : Int)) = (m, 6) := by
              simp only [stepI]
              rw [if_neg C.step]
              simp [HFS.out, HIS.out, h3, ho]
            rw [hsi] at HR
            rw [ho] at cO
            clear ho
            go_upto_region 69 with fail
            refine wp_region_quiet_below (by kernel_rfl) (by kernel_rfl) ?_
            repeat (go_big_quiet_step ((go_at_call 89; exact cO _ _)))
            refine wpQuiet_nil ?_
            intro _ hw'
            obtain ⟨⟨dq, osq⟩, hw''⟩ := hw'
            subst hw''
            have hXz : Below w.heap.size w (Sort.grow (redrawn Y dq) osq) := below_over hXq (below_regrown Y dq osq)
            generalize Sort.grow (redrawn Y dq) osq = Z at *
            clear r0 r1 r2 r3 r4 r5 r6 cO cn0 cn1 ci0 ci1 ci2 p0 m0
            go_wp2_with fail
            exact HR.out _ (C.TW.on hXz).st (hXz.mono (Nat.le_trans C.hB C.b0.size))
          · obtain ⟨h2, o, hoo⟩ := objS_of ho
            obtain ⟨i, hi⟩ := Int.eq_ofNat_of_zero_le (hVN h2)
            rw [hi, Int.toNat_natCast] at hoo
            have htv : nextV f.stk = (2, (i : Int)) := Prod.ext h2 hi
            have hil := (List.getElem?_eq_some_iff.1 hoo).1
            have hii : (i : Int) < (m.heap.length : Int) := by omega
            obtain ⟨gH, cH, aF, cF, hvh2, hci, hgH, hob⟩ := C.obj hoo
            rw [hvh2] at hvh
            injection hvh with hv1 hv2 hv3
            subst hv1 hv3
            obtain ⟨o0, o1⟩ := hob Y hYw
            have r7 := cell_regrown o0
            have r8 := cell_regrown o1
            have hn24 := (C.core.ob o (List.mem_of_getElem? hoo)).1
            have cP : ∀ d os, Calls Try.prog 90 #[.agg #[.slice (some ⟨bp, po, none⟩) p.length cap], .agg #[.int .i64 16, .int .i64 (a : Int), .int .i64 (b : Int)], .agg #[.int .i64 o.cls, .slice aF o.flds.length cF]] (Sort.grow (redrawn Y d) os) fun e w'' => e = .returned (.int .i64 (placeI p (a : Int) (b : Int) o.flds.length)) ∧ ∃ q : Regrown, w'' = Sort.grow (redrawn Y q.d) q.os := fun d os =>
              (l8Place_at Bp p bp po cap C.ok 16 (a : Int) (b : Int) o.cls (by omega) (by omega) aF o.flds.length cF hn24 _ (SK.on C.skw (Keep.of (below_over hXq (below_regrown Y d os))))).regrown_of
            rw [ho] at cO
            by_cases hpl2 : o.flds.length ≤ placeS p (a : Int) (b : Int)
            · have hpi2 : placeI p (a : Int) (b : Int) o.flds.length = -1 := by unfold placeI; rw [if_pos (.inr hpl2)]
              have hsi : stepI p m f own (16, (a : Int), (b : Int)) = (m, 6) := by
                simp only [stepI]
                rw [if_neg C.step]
                rw [htv] at ho ⊢
                simp [HFS.out, HIS.out, ho, hoo, hpl2]
              rw [hsi] at HR
              rw [hpi2] at cP
              rw [htv] at cn0 cn1 r1 r2 cO
              clear ho hob hpi2 hpl2
              go_upto_region 69 with fail
              refine wp_region_quiet_below (by kernel_rfl) (by kernel_rfl) ?_
              repeat (go_big_quiet_step (first | (go_at_call 89; exact cO _ _) | (go_at_call 90; exact cP _ _)))
              refine wpQuiet_nil ?_
              intro _ hw'
              obtain ⟨⟨dq, osq⟩, hw''⟩ := hw'
              subst hw''
              have hXz : Below w.heap.size w (Sort.grow (redrawn Y dq) osq) := below_over hXq (below_regrown Y dq osq)
              generalize Sort.grow (redrawn Y dq) osq = Z at *
              clear r0 r1 r2 r3 r4 r5 r6 r7 r8 cO cP cn0 cn1 ci0 ci1 ci2 p0 m0 o0 o1
              go_wp2_with fail
              exact HR.out _ (C.TW.on hXz).st (hXz.mono (Nat.le_trans C.hB C.b0.size))
            · obtain ⟨k, hk⟩ : ∃ k, k = placeS p (a : Int) (b : Int) := ⟨_, rfl⟩
              have hkk : k < o.flds.length := by omega
              have hpi2 : placeI p (a : Int) (b : Int) o.flds.length = (k : Int) := by
                unfold placeI
                rw [if_neg (by rw [HFS.out]; simp; omega), hk]
              obtain ⟨gO, rfl, hgO, hBO, hfld⟩ := C.fld hoo hci hkk
              have hsi : stepI p m f own (16, (a : Int), (b : Int)) = onS { m with heap := m.heap.set i { o with flds := o.flds.set k (topV f.stk) } } f 2 [] (f.pos + 1) := by
                simp only [stepI]
                rw [if_neg C.step]
                rw [htv] at ho ⊢
                simp [HFS.out, HIS.out, ho, hoo, hpl2, hk]
              rw [hsi] at HR
              rw [hpi2] at cP
              have HTV : Hid (nextV f.stk = (2, (i : Int))) := htv
              have hki : (k : Int) < (o.flds.length : Int) := by omega
              have hkn : decide ((k : Int) < 0) = false := by simp
              have HALL : Hid (∀ X, Below w.heap.size w X → X.cell? ⟨M, 0, none⟩ = some (.slice (some ⟨gH, 0, none⟩) m.heap.length cH) ∧ X.cell? ⟨bt, 0, none⟩ = some (.int .i64 (topV f.stk).1) ∧ X.cell? ⟨bt, 1, none⟩ = some (.int .i64 (topV f.stk).2) ∧ X.cell? ⟨bt + 1, 1, none⟩ = some (.int .i64 (i : Int)) ∧ X.cell? ⟨gH, i * 2, none⟩ = some (.int .i64 o.cls) ∧ X.cell? ⟨gH, i * 2 + 1, none⟩ = some (.slice (some ⟨gO, 0, none⟩) o.flds.length cF) ∧ X.cell? ⟨b2, 0, none⟩ = some (.slice (some ⟨bp, po, none⟩) p.length cap) ∧ X.cell? ⟨bi, 0, none⟩ = some (.int .i64 16) ∧ X.cell? ⟨bi, 1, none⟩ = some (.int .i64 (a : Int)) ∧ X.cell? ⟨bi, 2, none⟩ = some (.int .i64 (b : Int))) := fun X hX' => by
                have hXw : Below w0.heap.size w0 X := C.b0.trans (hX'.mono C.b0.size)
                obtain ⟨q0, q1⟩ := hob X hXw
                have hm := (C.TW.on hX').cells.g0.1
                rw [hvh2] at hm
                have hbt1 := (C.CN.on hX').g1.1
                rw [HTV.out] at hbt1
                exact ⟨hm, (C.CT.on hX').g0.1, (C.CT.on hX').g1.1, hbt1, q0, q1, (C.P2.on hX').g0.1, (C.CI.on hX').g0.1, (C.CI.on hX').g1.1, (C.CI.on hX').g2.1⟩
              have HFL2 : Hid (∀ X, Below w.heap.size w X → X.cell? ⟨gO, k * 2, none⟩ = some (.int .i64 (o.flds[k]).1) ∧ X.cell? ⟨gO, k * 2 + 1, none⟩ = some (.int .i64 (o.flds[k]).2) ∧ X.frozen? ⟨gO, k * 2, none⟩ = false ∧ X.frozen? ⟨gO, k * 2 + 1, none⟩ = false) := fun X hX' => by
                obtain ⟨f0, f1, fz⟩ := hfld X (C.b0.trans (hX'.mono C.b0.size))
                exact ⟨f0, f1, fz _ (by omega), fz _ (by omega)⟩
              have hgM : gO ≠ M := fun e => by
                have hc0 := C.T.own.h.row i o _ hoo hci 0 o.flds _ rfl rfl
                exact C.T.ne gO (.inl (.inr ⟨i, 0, hc0.inS⟩)) e
              have hgH' : gO ≠ gH := fun e => by
                have hc0 := C.T.own.h.row i o _ hoo hci 0 o.flds _ rfl rfl
                have hoff := C.T.own.h.off i 0 gO hc0.inS
                rw [hvh2] at hoff
                exact hoff (by rw [e]; rfl)
              have HSET : Hid (∀ X0, Below w.heap.size w X0 → (fun X : World => X.cell? ⟨M, 0, none⟩ = some (.slice (some ⟨gH, 0, none⟩) m.heap.length cH) ∧ X.cell? ⟨bt, 0, none⟩ = some (.int .i64 (topV f.stk).1) ∧ X.cell? ⟨bt, 1, none⟩ = some (.int .i64 (topV f.stk).2) ∧ X.cell? ⟨bt + 1, 1, none⟩ = some (.int .i64 (i : Int)) ∧ X.cell? ⟨gH, i * 2, none⟩ = some (.int .i64 o.cls) ∧ X.cell? ⟨gH, i * 2 + 1, none⟩ = some (.slice (some ⟨gO, 0, none⟩) o.flds.length cF) ∧ X.cell? ⟨b2, 0, none⟩ = some (.slice (some ⟨bp, po, none⟩) p.length cap) ∧ X.cell? ⟨bi, 0, none⟩ = some (.int .i64 16) ∧ X.cell? ⟨bi, 1, none⟩ = some (.int .i64 (a : Int)) ∧ X.cell? ⟨bi, 2, none⟩ = some (.int .i64 (b : Int))) (setV X0 gO k (topV f.stk))) := fun X0 hX' => by
                obtain ⟨s1, s2, s3, s4, s5, s6, s7, s8, s9, sA⟩ := HALL.out X0 hX'
                have hO : Only gO X0 (setV X0 gO k (topV f.stk)) := ((Only.refl _ _).set _ _).set _ _
                have hc : ∀ (bb oo : Nat) (v : Value), bb ≠ gO → X0.cell? ⟨bb, oo, none⟩ = some v → (setV X0 gO k (topV f.stk)).cell? ⟨bb, oo, none⟩ = some v := fun bb oo v hne h => (World.cell?_of_block (w := X0) (hO.block bb hne)).trans h
                have l1 := C.lt; have l2 := C.l2; have l3 := C.li
                exact ⟨hc _ _ _ (Ne.symm hgM) s1, hc _ _ _ (by omega) s2, hc _ _ _ (by omega) s3, hc _ _ _ (by omega) s4, hc _ _ _ (Ne.symm hgH') s5, hc _ _ _ (Ne.symm hgH') s6, hc _ _ _ (by omega) s7, hc _ _ _ (by omega) s8, hc _ _ _ (by omega) s9, hc _ _ _ (by omega) sA⟩
              rw [htv] at cn0 cn1 r1 r2 cO
              clear ho hob hpl2 hfld htv hk
              go_upto_region 69 with fail
              refine wp_region_quiet_below (by kernel_rfl) (by kernel_rfl) ?_
              repeat (go_big_quiet_step (first | (go_at_call 89; exact cO _ _) | (go_at_call 90; exact cP _ _)))
              refine wpQuiet_nil ?_
              intro _ hw'
              obtain ⟨⟨dq, osq⟩, hw''⟩ := hw'
              subst hw''
              have hXz : Below w.heap.size w (Sort.grow (redrawn Y dq) osq) := below_over hXq (below_regrown Y dq osq)
              generalize Sort.grow (redrawn Y dq) osq = Z at *
              clear r0 r1 r2 r3 r4 r5 r6 r7 r8 cO cP cn0 cn1 ci0 ci1 ci2 p0 m0 o0 o1
              go_upto_region 71 with fail
              have hXd : Below w.heap.size w Z.drew := hXz.drew
              have hH0 := HALL.out _ hXd
              have HPL : Hid (Calls Try.prog 90 #[.agg #[.slice (some ⟨bp, po, none⟩) p.length cap], .agg #[.int .i64 16, .int .i64 (a : Int), .int .i64 (b : Int)], .agg #[.int .i64 o.cls, .slice (some ⟨gO, 0, none⟩) o.flds.length cF]] Z.drew fun e w'' => e = .returned (.int .i64 (k : Int)) ∧ Below Z.drew.heap.size Z.drew w'') := by
                have := l8Place_at Bp p bp po cap C.ok 16 (a : Int) (b : Int) o.cls (by omega) (by omega) (some ⟨gO, 0, none⟩) o.flds.length cF hn24 Z.drew (SK.on C.skw (Keep.of hXd))
                rw [hpi2] at this
                exact this
              have HX2 : Hid (∀ w2, Below Z.drew.heap.size Z.drew w2 → Below w.heap.size w w2) := fun w2 h => below_over hXd h
              clear hpi2
              refine wp_region_held_drew (S := (fun X => X.cell? ⟨M, 0, none⟩ = some (.slice (some ⟨gH, 0, none⟩) m.heap.length cH) ∧ X.cell? ⟨bt, 0, none⟩ = some (.int .i64 (topV f.stk).1) ∧ X.cell? ⟨bt, 1, none⟩ = some (.int .i64 (topV f.stk).2) ∧ X.cell? ⟨bt + 1, 1, none⟩ = some (.int .i64 (i : Int)) ∧ X.cell? ⟨gH, i * 2, none⟩ = some (.int .i64 o.cls) ∧ X.cell? ⟨gH, i * 2 + 1, none⟩ = some (.slice (some ⟨gO, 0, none⟩) o.flds.length cF) ∧ X.cell? ⟨b2, 0, none⟩ = some (.slice (some ⟨bp, po, none⟩) p.length cap) ∧ X.cell? ⟨bi, 0, none⟩ = some (.int .i64 16) ∧ X.cell? ⟨bi, 1, none⟩ = some (.int .i64 (a : Int)) ∧ X.cell? ⟨bi, 2, none⟩ = some (.int .i64 (b : Int)))) (by kernel_rfl) hH0 (fun hHeld => ?_)
              refine wpAnyH_take (i := 0) (v := ?_) rfl (by kernel_rfl) (by kernel_rfl) (by kernel_rfl) (fun _ _ _ h => h) (Or.inl ⟨by rfl, ?_⟩) hHeld ?_
              rotate_left 1
              · intro w' hSw
                obtain ⟨y1, y2, y3, y4, y5, y6, y7, y8, y9, yA⟩ := hSw
                go_simp
                try with_reducible rfl
              simp only [Act.put, List.getElem_toArray, List.getElem_cons_zero]
              refine wpAnyH_take (i := 1) (v := ?_) rfl (by kernel_rfl) (by kernel_rfl) (by kernel_rfl) (fun _ _ _ h => h) (Or.inl ⟨by rfl, ?_⟩) hHeld ?_
              rotate_left 1
              · intro w' hSw
                obtain ⟨y1, y2, y3, y4, y5, y6, y7, y8, y9, yA⟩ := hSw
                go_simp
                try with_reducible rfl
              simp only [Act.put, List.getElem_toArray, List.getElem_cons_zero, List.getElem_cons_succ]
              refine wpAnyH_take (i := 2) (v := ?_) rfl (by kernel_rfl) (by kernel_rfl) (by kernel_rfl) (fun _ _ _ h => h) (Or.inl ⟨by rfl, ?_⟩) hHeld ?_
              rotate_left 1
              · intro w' hSw
                obtain ⟨y1, y2, y3, y4, y5, y6, y7, y8, y9, yA⟩ := hSw
                go_simp
                try with_reducible rfl
              simp only [Act.put, List.getElem_toArray, List.getElem_cons_zero, List.getElem_cons_succ]
              refine wpAnyH_take (i := 3) (v := ?_) rfl (by kernel_rfl) (by kernel_rfl) (by kernel_rfl) (fun _ _ _ h => h) (Or.inl ⟨by rfl, ?_⟩) hHeld ?_
              rotate_left 1
              · intro w' hSw
                obtain ⟨y1, y2, y3, y4, y5, y6, y7, y8, y9, yA⟩ := hSw
                go_simp
                try with_reducible rfl
              simp only [Act.put, List.getElem_toArray, List.getElem_cons_zero, List.getElem_cons_succ]
              refine wpAnyH_take (i := 4) (v := ?_) rfl (by kernel_rfl) (by kernel_rfl) (by kernel_rfl) (fun _ _ _ h => h) (Or.inl ⟨by rfl, ?_⟩) hHeld ?_
              rotate_left 1
              · intro w' hSw
                obtain ⟨y1, y2, y3, y4, y5, y6, y7, y8, y9, yA⟩ := hSw
                go_simp
                try with_reducible rfl
              simp only [Act.put, List.getElem_toArray, List.getElem_cons_zero, List.getElem_cons_succ]
              refine wpAnyH_take (i := 5) (v := ?_) rfl (by kernel_rfl) (by kernel_rfl) (by kernel_rfl) (fun _ _ _ h => h) (Or.inl ⟨by rfl, ?_⟩) hHeld ?_
              rotate_left 1
              · intro w' hSw
                obtain ⟨y1, y2, y3, y4, y5, y6, y7, y8, y9, yA⟩ := hSw
                go_simp
                try with_reducible rfl
              simp only [Act.put, List.getElem_toArray, List.getElem_cons_zero, List.getElem_cons_succ]
              refine wpAnyH_take (i := 6) (v := ?_) rfl (by kernel_rfl) (by kernel_rfl) (by kernel_rfl) (fun _ _ _ h => h) (Or.inl ⟨by rfl, ?_⟩) hHeld ?_
              rotate_left 1
              · intro w' hSw
                obtain ⟨y1, y2, y3, y4, y5, y6, y7, y8, y9, yA⟩ := hSw
                go_simp
                try with_reducible rfl
              simp only [Act.put, List.getElem_toArray, List.getElem_cons_zero, List.getElem_cons_succ]
              refine wpAnyH_take (i := 7) (v := ?_) rfl (by kernel_rfl) (by kernel_rfl) (by kernel_rfl) (fun _ _ _ h => h) (Or.inl ⟨by rfl, ?_⟩) hHeld ?_
              rotate_left 1
              · intro w' hSw
                obtain ⟨y1, y2, y3, y4, y5, y6, y7, y8, y9, yA⟩ := hSw
                go_simp
                try with_reducible rfl
              simp only [Act.put, List.getElem_toArray, List.getElem_cons_zero, List.getElem_cons_succ]
              refine wpAnyH_take (i := 8) (v := ?_) rfl (by kernel_rfl) (by kernel_rfl) (by kernel_rfl) (fun _ _ _ h => h) (Or.inl ⟨by rfl, ?_⟩) hHeld ?_
              rotate_left 1
              · intro w' hSw
                obtain ⟨y1, y2, y3, y4, y5, y6, y7, y8, y9, yA⟩ := hSw
                go_simp
                try with_reducible rfl
              simp only [Act.put, List.getElem_toArray, List.getElem_cons_zero, List.getElem_cons_succ]
              refine wpAnyH_take (i := 9) (v := ?_) rfl (by kernel_rfl) (by kernel_rfl) (by kernel_rfl) (fun _ _ _ h => h) (Or.inl ⟨by rfl, ?_⟩) hHeld ?_
              rotate_left 1
              · intro w' hSw
                obtain ⟨y1, y2, y3, y4, y5, y6, y7, y8, y9, yA⟩ := hSw
                go_simp
                try with_reducible rfl
              simp only [Act.put, List.getElem_toArray, List.getElem_cons_zero, List.getElem_cons_succ]
              refine wpAnyH_take (i := 10) (v := ?_) rfl (by kernel_rfl) (by kernel_rfl) (by kernel_rfl) (fun _ _ _ h => h) (Or.inl ⟨by rfl, ?_⟩) hHeld ?_
              rotate_left 1
              · intro w' hSw
                obtain ⟨y1, y2, y3, y4, y5, y6, y7, y8, y9, yA⟩ := hSw
                go_simp
                try with_reducible rfl
              simp only [Act.put, List.getElem_toArray, List.getElem_cons_zero, List.getElem_cons_succ]
              refine wpAnyH_take (i := 11) (v := ?_) rfl (by kernel_rfl) (by kernel_rfl) (by kernel_rfl) (fun _ _ _ h => h) (Or.inl ⟨by rfl, ?_⟩) hHeld ?_
              rotate_left 1
              · intro w' hSw
                obtain ⟨y1, y2, y3, y4, y5, y6, y7, y8, y9, yA⟩ := hSw
                go_simp
                try with_reducible rfl
              simp only [Act.put, List.getElem_toArray, List.getElem_cons_zero, List.getElem_cons_succ]
              refine wpAnyH_take (i := 12) (v := ?_) rfl (by kernel_rfl) (by kernel_rfl) (by kernel_rfl) (fun _ _ _ h => h) (Or.inl ⟨by rfl, ?_⟩) hHeld ?_
              rotate_left 1
              · intro w' hSw
                obtain ⟨y1, y2, y3, y4, y5, y6, y7, y8, y9, yA⟩ := hSw
                go_simp
                try with_reducible rfl
              simp only [Act.put, List.getElem_toArray, List.getElem_cons_zero, List.getElem_cons_succ]
              refine wpAnyH_take (i := 13) (v := ?_) rfl (by kernel_rfl) (by kernel_rfl) (by kernel_rfl) (fun _ _ _ h => h) (Or.inl ⟨by rfl, ?_⟩) hHeld ?_
              rotate_left 1
              · intro w' hSw
                obtain ⟨y1, y2, y3, y4, y5, y6, y7, y8, y9, yA⟩ := hSw
                go_simp
                try with_reducible rfl
              simp only [Act.put, List.getElem_toArray, List.getElem_cons_zero, List.getElem_cons_succ]
              refine wpAnyH_take (i := 14) (v := ?_) rfl (by kernel_rfl) (by kernel_rfl) (by kernel_rfl) (fun _ _ _ h => h) (Or.inl ⟨by rfl, ?_⟩) hHeld ?_
              rotate_left 1
              · intro w' hSw
                obtain ⟨y1, y2, y3, y4, y5, y6, y7, y8, y9, yA⟩ := hSw
                go_simp
                try with_reducible rfl
              simp only [Act.put, List.getElem_toArray, List.getElem_cons_zero, List.getElem_cons_succ]
              refine wpAnyH_take (i := 15) (v := ?_) rfl (by kernel_rfl) (by kernel_rfl) (by kernel_rfl) (fun _ _ _ h => h) (Or.inl ⟨by rfl, ?_⟩) hHeld ?_
              rotate_left 1
              · intro w' hSw
                obtain ⟨y1, y2, y3, y4, y5, y6, y7, y8, y9, yA⟩ := hSw
                go_simp
                try with_reducible rfl
              simp only [Act.put, List.getElem_toArray, List.getElem_cons_zero, List.getElem_cons_succ]
              refine wpAnyH_take (i := 16) (v := ?_) rfl (by kernel_rfl) (by kernel_rfl) (by kernel_rfl) (fun _ _ _ h => h) (Or.inl ⟨by rfl, ?_⟩) hHeld ?_
              rotate_left 1
              · intro w' hSw
                obtain ⟨y1, y2, y3, y4, y5, y6, y7, y8, y9, yA⟩ := hSw
                go_simp
                try with_reducible rfl
              simp only [Act.put, List.getElem_toArray, List.getElem_cons_zero, List.getElem_cons_succ]
              refine wpAnyH_take (i := 17) (v := ?_) rfl (by kernel_rfl) (by kernel_rfl) (by kernel_rfl) (fun _ _ _ h => h) (Or.inl ⟨by rfl, ?_⟩) hHeld ?_
              rotate_left 1
              · intro w' hSw
                obtain ⟨y1, y2, y3, y4, y5, y6, y7, y8, y9, yA⟩ := hSw
                go_simp
                try with_reducible rfl
              simp only [Act.put, List.getElem_toArray, List.getElem_cons_zero, List.getElem_cons_succ]
              refine wpAnyH_take (i := 18) (v := ?_) rfl (by kernel_rfl) (by kernel_rfl) (by kernel_rfl) (fun _ _ _ h => h) (Or.inl ⟨by rfl, ?_⟩) hHeld ?_
              rotate_left 1
              · intro w' hSw
                obtain ⟨y1, y2, y3, y4, y5, y6, y7, y8, y9, yA⟩ := hSw
                go_simp
                try with_reducible rfl
              simp only [Act.put, List.getElem_toArray, List.getElem_cons_zero, List.getElem_cons_succ]
              refine wpAnyH_take (i := 20) (v := ?_) rfl (by kernel_rfl) (by kernel_rfl) (by kernel_rfl) (fun _ _ _ h => h) (Or.inl ⟨by rfl, ?_⟩) hHeld ?_
              rotate_left 1
              · intro w' hSw
                obtain ⟨y1, y2, y3, y4, y5, y6, y7, y8, y9, yA⟩ := hSw
                go_simp
                try with_reducible rfl
              simp only [Act.put, List.getElem_toArray, List.getElem_cons_zero, List.getElem_cons_succ]
              refine wpAnyH_ready (rs := [19]) (by kernel_rfl) (by simp) ?_
              refine AllReadyH.cons rfl (fun K2 hK2 => ?_) AllReadyH.nil
              go_simp
              refine HPL.out.mono ?_
              rintro e w2 ⟨rfl, hb2⟩
              dsimp only
              have hXw2 := HX2.out w2 hb2
              refine hK2.out _ _ (HALL.out w2 hXw2) (fun hHeld => ?_)
              clear hK2 K2
              refine wpAnyH_take (i := 21) (v := ?_) rfl (by kernel_rfl) (by kernel_rfl) (by kernel_rfl) (fun _ _ _ h => h) (Or.inl ⟨by rfl, ?_⟩) hHeld ?_
              rotate_left 1
              · intro w' hSw
                obtain ⟨y1, y2, y3, y4, y5, y6, y7, y8, y9, yA⟩ := hSw
                go_simp
                try with_reducible rfl
              simp only [Act.put, List.getElem_toArray, List.getElem_cons_zero, List.getElem_cons_succ]
              refine wpAnyH_ready (rs := [22]) (by kernel_rfl) (by simp) ?_
              refine AllReadyH.cons rfl (fun K2 hK2 => ?_) AllReadyH.nil
              obtain ⟨q0, q1, z0, z1⟩ := HFL2.out w2 hXw2
              have hS2 := HSET.out w2 hXw2
              go_simp
              refine hK2.out _ _ hS2 (fun hHeld => ?_)
              clear hK2 K2 q0 q1 z0 z1
              refine wpAnyH_done (by kernel_rfl) ?_ _
              have hTZ := (C.TW.on hXw2).setFld (Nat.le_trans (Nat.le_trans C.hB C.b0.size) hXw2.size) hoo hci hkk (topV f.stk)
              have hO : Only gO w2 (setV w2 gO k (topV f.stk)) := ((Only.refl _ _).set _ _).set _ _
              have IZ : Hid (Cells (setV w2 gO k (topV f.stk)) bi [.int .i64 16, .int .i64 (a : Int), .int .i64 (b : Int)]) := (C.CI.on hXw2).onlyM hO (by have := C.li; omega)
              have TZ : Hid (Cells (setV w2 gO k (topV f.stk)) bt [.int .i64 (topV f.stk).1, .int .i64 (topV f.stk).2]) := (C.CT.on hXw2).onlyM hO (by have := C.lt; omega)
              have hBZ : Below B w (setV w2 gO k (topV f.stk)) := ((hXw2.mono (Nat.le_trans C.hB C.b0.size)).setCell hBO _).setCell hBO _
              have hsZ := Nat.le_trans (Nat.le_trans C.hB C.b0.size) hBZ.size
              clear hHeld HALL HSET HFL2 HPL HX2 hH0 hS2 hb2
              go_wp2_with fail
              refine stepTail B M { m with heap := m.heap.set i { o with flds := o.flds.set k (topV f.stk) } } q f G fcap vS vL _ vs ch cf Th Tf (setV w2 gO k (topV f.stk)) hsZ hTZ C.hq 16 (a : Int) (b : Int) bi bt (topV f.stk) IZ.out TZ.out (by have := C.glt; have := C.li; omega) (by have := C.glt; have := C.lt; omega) (takesS 16) C.nt C.fok.s8 w.heap.size 0 [] ⟨_, _, rfl, fun _ e => by simp at e, fun h => by simp at h⟩ (by simp) C.pos R ?_
              intro w' hM hb'
              exact HR.out w' (by simpa [takesS] using hM) (hBZ.trans hb')
    · have hbf : decide ((b : Int) ≥ (p[a].fields.length : Int)) = true := by simp; omega
      have hbl : (p[a].fields.length : Int) ≤ (b : Int) := by omega
      have hsi : stepI p m f own (16, (a : Int), (b : Int)) = (m, 6) := by
        simp only [stepI]
        rw [if_neg C.step]
        simp [HFL.out, hfb]
      rw [hsi] at HR
      clear hcl HSI HFL
      generalize p[a].fields.length = nf at *
      unfold c8
      conv => arg 2; whnf
      go_upto_region 65 with fail
      refine wp_region_quiet_below (by kernel_rfl) (by kernel_rfl) ?_
      repeat (go_big_quiet_step (fail))
      refine wpQuiet_nil ?_
      intro _ hw'
      obtain ⟨⟨dq, osq⟩, hw''⟩ := hw'
      subst hw''
      have hXq : Below w.heap.size w (Sort.grow (redrawn (w.alloc (.cells #[] 57)) dq) osq) := hX.trans ((below_regrown (w.alloc (.cells #[] 57)) dq osq).mono hX.size)
      generalize Sort.grow (redrawn (w.alloc (.cells #[] 57)) dq) osq = Y at *
      clear e1 e2 e3 e4 d1 ci1 ci2 p0 ci
      go_wp2_with fail
      exact HR.out _ (C.TW.on hXq).st (hXq.mono (Nat.le_trans C.hB C.b0.size))
  · have hli : (p.length : Int) ≤ (a : Int) := by omega
    have hbp : decide ((a : Int) ≥ (p.length : Int)) = true := by simp; omega
    have hsi : stepI p m f own (16, (a : Int), (b : Int)) = (m, 6) := by
      simp only [stepI]
      rw [if_neg C.step]
      have : fldS p (a : Int) (b : Int) = none := by unfold fldS; rw [Int.toNat_natCast, List.getElem?_eq_none (by omega)]
      simp [this]
    rw [hsi] at HR
    unfold c8
    conv => arg 2; whnf
    go_upto_region 65 with fail
    refine wp_region_quiet_below (by kernel_rfl) (by kernel_rfl) ?_
    repeat (go_big_quiet_step (fail))
    refine wpQuiet_nil ?_
    intro _ hw'
    obtain ⟨⟨dq, osq⟩, hw''⟩ := hw'
    subst hw''
    have hXq : Below w.heap.size w (Sort.grow (redrawn (w.alloc (.cells #[] 57)) dq) osq) := hX.trans ((below_regrown (w.alloc (.cells #[] 57)) dq osq).mono hX.size)
    generalize Sort.grow (redrawn (w.alloc (.cells #[] 57)) dq) osq = Y at *
    clear e1 e2 e3  ci1 ci2 p0 ci
    go_wp2_with fail
    exact HR.out _ (C.TW.on hXq).st (hXq.mono (Nat.le_trans C.hB C.b0.size))
end Pg
end Go.Proofs.Ytffkkhaiedhaiaa

/- The step, op by op: 15. Classes, fields and objects, read in any later world. -/
import Derived.Test.YtffkkhaiedhaiaaJMtF
namespace Go.Proofs.Ytffkkhaiedhaiaa
namespace Pg
open Go.ChangeShapes Go.WideShapes Go.ChangeAt Go.RowKit St Wd

/-- A class of a program: its cells in any later world. -/
theorem SK.cls {B : Nat} {w : World} {p : Prg} {b o cap j : Nat} (h : SK front B w (.slice (some ⟨b, o, none⟩) p.length cap) p) (hj : j < p.length) :
    ∃ z1 t1 z2 t2, (∀ X, Below w.heap.size w X → X.cell? ⟨b, o + j * 3, none⟩ = some (.int .i64 p[j].super) ∧ X.cell? ⟨b, o + j * 3 + 1, none⟩ = some (.slice z1 p[j].fields.length t1) ∧ X.cell? ⟨b, o + j * 3 + 2, none⟩ = some (.slice z2 p[j].meths.length t2) ∧ SI true B X (.slice z1 p[j].fields.length t1) p[j].fields ∧ SM front B X (.slice z2 p[j].meths.length t2) p[j].meths) := by
  obtain ⟨b', o', he, _, vf, vm, d0, d1, d2, hcv⟩ := h.get hj
  injection he with he
  injection he with e1 e2
  subst e1 e2
  obtain ⟨z1, t1, rfl⟩ := hcv.1.form
  obtain ⟨z2, t2, rfl⟩ := hcv.2.form
  have l0 : b < w.heap.size := cell_lt d0
  exact ⟨z1, t1, z2, t2, fun X hX => ⟨(hX.cell (p := ⟨b, o + j * 3, none⟩) l0).trans d0, (hX.cell (p := ⟨b, o + j * 3 + 1, none⟩) l0).trans d1, (hX.cell (p := ⟨b, o + j * 3 + 2, none⟩) l0).trans d2, SI.on hcv.1 (Keep.of hX), SM.on hcv.2 (Keep.of hX)⟩⟩
theorem SM.meth {B : Nat} {w : World} {l : List Meth} {a : Option Addr} {n cap k : Nat} (h : SM front B w (.slice a n cap) l) (hk : k < l.length) :
    ∃ b o av cv gc cc, a = some ⟨b, o, none⟩ ∧ ∀ X, Below w.heap.size w X → X.cell? ⟨b, o + k * 4, none⟩ = some (.int .i64 l[k].name) ∧ X.cell? ⟨b, o + k * 4 + 1, none⟩ = some (.slice av l[k].args.length cv) ∧ X.cell? ⟨b, o + k * 4 + 2, none⟩ = some (.int .i64 l[k].gives) ∧ X.cell? ⟨b, o + k * 4 + 3, none⟩ = some (.slice (some ⟨gc, 0, none⟩) l[k].code.length cc) ∧ Row X gc 0 l[k].code ∧ SI true B X (.slice av l[k].args.length cv) l[k].args := by
  obtain ⟨b, o, ha, _, va, vc, d0, d1, d2, d3, hv⟩ := h.get hk
  obtain ⟨gc, cc, rfl, h1, h2, h3, _⟩ := hv.2
  obtain ⟨av, cv, rfl⟩ := hv.1.form
  have l0 : b < w.heap.size := cell_lt d0
  exact ⟨b, o, av, cv, gc, cc, ha, fun X hX => ⟨(hX.cell (p := ⟨b, o + k * 4, none⟩) l0).trans d0, (hX.cell (p := ⟨b, o + k * 4 + 1, none⟩) l0).trans d1, (hX.cell (p := ⟨b, o + k * 4 + 2, none⟩) l0).trans d2, (hX.cell (p := ⟨b, o + k * 4 + 3, none⟩) l0).trans d3, h3.on hX, SI.on hv.1 (Keep.of hX)⟩⟩
theorem ownI_two (c : Cls) (n : Int) : (ownI c n = -1 ∧ ownF c n = none) ∨ ∃ (k : Nat) (x : Meth), ownI c n = (k : Int) ∧ c.meths[k]? = some x ∧ ownF c n = some x := by
  cases e : c.meths.findIdx? (fun m => decide (m.name = n)) with
  | none =>
    left
    refine ownI_none fun j hj x hx hn => ?_
    have := List.findIdx?_eq_none_iff.1 e x (List.mem_of_getElem? hx)
    simp [hn] at this
  | some k =>
    right
    obtain ⟨hk, hpk, hlt⟩ := List.findIdx?_eq_some_iff_getElem.1 e
    obtain ⟨h1, h2⟩ := ownI_some (c := c) (name := n) (k := k) (m := c.meths[k]) (fun j hj x hx hn => by
      have hjl := (List.getElem?_eq_some_iff.1 hx).1
      have := hlt j hj
      rw [(List.getElem?_eq_some_iff.1 hx).2] at this
      simp [hn] at this) (List.getElem?_eq_getElem hk) (by simpa using hpk)
    exact ⟨k, _, h1, List.getElem?_eq_getElem hk, h2⟩
theorem ownS_code {p : Prg} (hok : okP p = true) {f : Fr} {own : Meth} (h : ownS p f = some own) : Lay.codeOk own.code = true := meth_code hok (c := f.cls) (n := f.name) h
variable {Bp : Nat} {p : Prg} {bp po cap B M : Nat} {m : Mc} {q : Nat} {f : Fr} {own : Meth} {op A Bi : Int} {b2 b6 bi bt G fcap : Nat} {vS vL vh vs vA : Value} {gc cc : Nat} {ch cf : List (List Value)} {Th Tf : Nat → Nat → Nat → Prop} {w0 w : World}
/-- An object of the machine, read in any later world. -/
theorem StepC.obj (C : StepC Bp p bp po cap B M m q f own op A Bi b2 b6 bi bt G fcap vS vL vh vs vA gc cc ch cf Th Tf w0 w) {i : Nat} {o : Ob} (ho : m.heap[i]? = some o) :
    ∃ gH cH aF cF, vh = .slice (some ⟨gH, 0, none⟩) m.heap.length cH ∧ ch[i]? = some [.slice aF o.flds.length cF] ∧ gH < w0.heap.size ∧
      ∀ X, Below w0.heap.size w0 X → X.cell? ⟨gH, i * 2, none⟩ = some (.int .i64 o.cls) ∧ X.cell? ⟨gH, i * 2 + 1, none⟩ = some (.slice aF o.flds.length cF) := by
  have hi := (List.getElem?_eq_some_iff.1 ho).1
  obtain ⟨gH, cH, rfl⟩ := own_form C.T.own.h.own (by omega)
  have hl : i < ch.length := by rw [C.T.own.h.len]; exact hi
  have hw1 := C.T.own.h.wid i _ (List.getElem?_eq_getElem hl)
  obtain ⟨y, hy⟩ : ∃ y, ch[i] = [y] := List.length_eq_one_iff.1 hw1
  have hci : ch[i]? = some [y] := by rw [List.getElem?_eq_getElem hl, hy]
  obtain ⟨aF, cF, rfl⟩ := (C.T.own.h.row i o _ ho hci 0 o.flds y rfl rfl).form
  have hg := (C.T.own.h.own.lt gH rfl).2
  refine ⟨gH, cH, aF, cF, rfl, hci, hg, fun X hX => ⟨?_, ?_⟩⟩
  · exact (hX.cell (p := ⟨gH, i * 2, none⟩) hg).trans (C.T.own.h.cell ho hci (d := 0) (by show 0 < 2; omega))
  · exact (hX.cell (p := ⟨gH, i * 2 + 1, none⟩) hg).trans (C.T.own.h.cell ho hci (d := 1) (by show 1 < 2; omega))
theorem StepC.fld (C : StepC Bp p bp po cap B M m q f own op A Bi b2 b6 bi bt G fcap vS vL vh vs vA gc cc ch cf Th Tf w0 w) {i k : Nat} {o : Ob} (ho : m.heap[i]? = some o) {aF : Option Addr} {cF : Nat} (hc : ch[i]? = some [.slice aF o.flds.length cF]) (hk : k < o.flds.length) :
    ∃ gO, aF = some ⟨gO, 0, none⟩ ∧ gO < w0.heap.size ∧ B ≤ gO ∧ ∀ X, Below w0.heap.size w0 X → X.cell? ⟨gO, k * 2, none⟩ = some (.int .i64 (o.flds[k]).1) ∧ X.cell? ⟨gO, k * 2 + 1, none⟩ = some (.int .i64 (o.flds[k]).2) ∧ ∀ j, j < o.flds.length * 2 → X.frozen? ⟨gO, j, none⟩ = false := by
  rcases C.T.own.h.row i o _ ho hc 0 o.flds _ rfl rfl with ⟨g, c, hv, h1, h2, h3, h4⟩ | ⟨_, hl⟩
  · injection hv with e1 _ _
    subst e1
    refine ⟨g, rfl, h2, C.T.own.low g (.inl (.inr ⟨i, 0, h1⟩)), fun X hX => ?_⟩
    obtain ⟨c0, c1⟩ := h3 k _ (List.getElem?_eq_getElem hk)
    exact ⟨(hX.cell (p := ⟨g, k * 2, none⟩) h2).trans c0, (hX.cell (p := ⟨g, k * 2 + 1, none⟩) h2).trans c1, fun j hj => (hX.frozen (p := ⟨g, j, none⟩) h2).trans (h4 j hj).2⟩
  · rw [hl] at hk
    simp at hk
theorem objS_of {p : Prg} {h : List Ob} {v : Vl} {c : Int} (e : objS p h v c = true) : v.1 = 2 ∧ ∃ o, h[v.2.toNat]? = some o := by
  unfold objS at e
  simp only [Bool.and_eq_true, decide_eq_true_eq] at e
  refine ⟨e.1, ?_⟩
  cases hh : h[v.2.toNat]? with
  | none => rw [hh] at e; simp at e
  | some o => exact ⟨o, rfl⟩
set_option maxRecDepth 100000 in
set_option maxHeartbeats 4000000 in
theorem stepOp15 (C : StepC Bp p bp po cap B M m q f own 15 A Bi b2 b6 bi bt G fcap vS vL vh vs vA gc cc ch cf Th Tf w0 w) (R : Ending → World → Prop)
    (hR : ∀ w', MSt B M w' (stepI p m f own (15, A, Bi)).1 → Below B w w' → R (.returned (.int .i64 (stepI p m f own (15, A, Bi)).2)) w') (K : Act → World → Prop) (hK : ∀ a w', Code.wp Try.prog (c8 [true, true, true, true, true, true, true, true, true, true, true, true, true, true, true]) (bodyPost Try.prog Try.f56 R) a w' → K a w')
    {u0 u3 u4 u14 u15 u16 u17 u18 u19 u20 u21 u22 u23 u24 u25 u26 u27 u28 u29 u30 u31 u32 u33 u34 u35 u36 u37 u38 u39 u40 u41 u42 u43 u44 u45 u46 u47 u48 u49 u50 u51 u52 u53 u54 u55 u56 u57 u58 u59 u60 u61 u62 u63 u64 u65 u66 u67 u68 u69 u70 u71 u72 u73 u74 u75 u76 u77 u78 u79 u80 u81 u82 u83 u84 u85 u86 u87 u88 u89 u90 u91 u92 u93 u94 u95 u96 u97 u98 u99 u100 u101 u102 u103 u104 u105 u106 u107 u108 u109 u110 u111 u112 u113 u114 u115 u116 u117 u118 u119 u120 u121 u122 u123 u124 u125 u126 u127 u128 u129 u130 u131 u132 u133 u134 u135 u136 u137 u138 u139 u140 u141 u142 u143 u144 u145 u146 : Value} : Code.wp Try.prog (c8 [true, true, true, true, true, true, true, true, true, true, true, true, true, true, false]) (Exit.then K (bodyPost Try.prog Try.f56 R)) { tmps := #[u0, .pointer (some ⟨M, 0, none⟩), .pointer (some ⟨b2, 0, none⟩), u3, u4, .pointer (some ⟨G, q * 5, none⟩), .pointer (some ⟨b6, 0, none⟩), .pointer (some ⟨bi, 0, none⟩), .int .i64 (f.stk.length : Int), .int .i64 (takesS 15 : Int), .pointer (some ⟨bt, 0, none⟩), .pointer (some ⟨bt + 1, 0, none⟩), .slice (some ⟨w.heap.size, 0, none⟩) 0 0, undef, u14, u15, u16, u17, u18, u19, u20, u21, u22, u23, u24, u25, u26, u27, u28, u29, u30, u31, u32, u33, u34, u35, u36, u37, u38, u39, u40, u41, u42, u43, u44, u45, u46, u47, u48, u49, u50, u51, u52, u53, u54, u55, u56, u57, u58, u59, u60, u61, u62, u63, u64, u65, u66, u67, u68, u69, u70, u71, u72, u73, u74, u75, u76, u77, u78, u79, u80, u81, u82, u83, u84, u85, u86, u87, u88, u89, u90, u91, u92, u93, u94, u95, u96, u97, u98, u99, u100, u101, u102, u103, u104, u105, u106, u107, u108, u109, u110, u111, u112, u113, u114, u115, u116, u117, u118, u119, u120, u121, u122, u123, u124, u125, u126, u127, u128, u129, u130, u131, u132, u133, u134, u135, u136, u137, u138, u139, u140, u141, u142, u143, u144, u145, u146, undef, undef, undef, undef, undef, undef, undef, undef, undef, undef, undef, undef, undef, undef, undef, undef, undef, undef, undef, undef, undef, undef, undef, undef, undef, undef, undef, undef, undef, undef, undef, undef, undef, undef, undef, undef, undef, undef, undef, undef, undef, undef, undef, undef, undef, undef, undef, undef, undef, undef, undef, undef, undef, undef, undef, undef, undef, undef, undef, undef, undef, undef, undef, undef, undef, undef, undef, undef, undef, undef, undef, undef, undef, undef, undef, undef, undef, undef, undef, undef, undef, undef, undef, undef, undef, undef, undef, undef, undef, undef, undef, undef, undef, undef, undef, undef, undef, undef, undef, undef, undef, undef, undef, undef, undef, undef, undef, undef, undef, undef, undef, undef, undef, undef, undef, undef, undef, undef, undef, undef, undef, undef, undef, undef, undef, undef, undef, undef, undef, undef, undef, undef, undef, undef, undef, undef, undef, undef, undef, undef, undef, undef, undef, undef, undef, undef, undef, undef, undef, undef, undef, undef, undef, undef, undef, undef, undef, undef, undef, undef, undef, undef, undef, undef, undef, undef, undef, undef, undef, undef, undef, undef, undef, undef, undef, undef, undef, undef, undef, undef, undef, undef, undef, undef, undef, undef, undef, undef, undef, undef, undef, undef, undef, undef, undef, undef, undef, undef, undef, undef, undef, undef, undef, undef, undef, undef, undef, undef, undef, undef, undef, undef, undef, undef, undef, undef, undef, undef, undef, undef, undef, undef, undef, undef, undef, undef, undef, undef, undef, undef, undef, undef, undef, undef, undef, undef, undef, undef, undef, undef, undef, undef, undef, undef, undef, undef, undef, undef, undef, undef, undef, undef, undef, undef, undef, undef, undef, undef, undef, undef, undef, undef, undef, undef, undef, undef, undef, undef, undef, undef, undef, undef, undef, undef, undef, undef, undef, undef, undef, undef, undef, undef, undef, undef, undef, undef, undef, undef, undef, undef, undef, undef, undef, undef, undef, undef, undef, undef, undef, undef, undef, undef, undef, undef, undef, undef, undef, undef, undef, undef, undef, undef, undef, undef, undef, undef, undef, undef, undef, undef, undef, undef, undef, undef, undef, undef, undef, undef, undef, undef, undef, undef, undef, undef, undef, undef, undef, undef, undef, undef, undef, undef, undef, undef, undef, undef, undef, undef, undef, undef, undef, undef, undef, undef, undef, undef, undef, undef, undef, undef, undef, undef, undef, undef, undef, undef, undef, undef, undef, undef, undef, undef, undef, undef, undef, undef], defers := [] } (w.alloc (.cells #[] 57)) := by
  have hX : Below w.heap.size w (w.alloc (.cells #[] 57)) := (Below.refl _ _).alloc (Nat.le_refl _) _
  have ci := (C.CI.on hX).g0.1
  have ci1 := (C.CI.on hX).g1.1
  have ci2 := (C.CI.on hX).g2.1
  have p0 := (C.P2.on hX).g0.1
  have HR : Hid (∀ w', MSt B M w' (stepI p m f own (15, A, Bi)).1 → Below B w w' → R (.returned (.int .i64 (stepI p m f own (15, A, Bi)).2)) w') := hR
  clear hR
  have hA : (0 ≤ A ∧ A < 6) ∧ 0 ≤ Bi ∧ Bi < 4 := by have := C.okI; unfold Tx.okI Tx.limA Tx.limB at this; simp at this; omega
  have hs1 : 1 ≤ f.stk.length := by have := C.nt; simpa [takesS] using this
  obtain ⟨a, rfl⟩ := Int.eq_ofNat_of_zero_le hA.1.1
  obtain ⟨b, rfl⟩ := Int.eq_ofNat_of_zero_le hA.2.1
  have e1 := cell_regrown ci1
  have e2 := cell_regrown ci2
  have e3 := cell_regrown p0
  by_cases hpa : a < p.length
  · have hpl : ¬ (p.length : Int) ≤ (a : Int) := by omega
    have hpi : (a : Int) < (p.length : Int) := by omega
    have hbp : decide ((a : Int) ≥ (p.length : Int)) = false := by simp; omega
    obtain ⟨z1, t1, z2, t2, hcl⟩ := C.sk.cls hpa
    have d1 := (hcl _ (C.b0.trans (hX.mono C.b0.size))).2.1
    have e4 := cell_regrown d1
    have HFL : Hid (fldS p (a : Int) (b : Int) = (p[a].fields)[b]?) := by show _ = _; unfold fldS; rw [Int.toNat_natCast, List.getElem?_eq_getElem hpa, Int.toNat_natCast]
    by_cases hfb : b < p[a].fields.length
    · have hbf : decide ((b : Int) ≥ (p[a].fields.length : Int)) = false := by simp; omega
      have hbf2 : ¬ (p[a].fields.length : Int) ≤ (b : Int) := by omega
      have HFS : Hid (fldS p (a : Int) (b : Int) = some (p[a].fields)[b]) := by show _ = _; rw [HFL.out, List.getElem?_eq_getElem hfb]
      unfold c8
      conv => arg 2; whnf
      go_upto_region 57 with fail
      refine wp_region_quiet_below (by kernel_rfl) (by kernel_rfl) ?_
      repeat (go_big_quiet_step (fail))
      refine wpQuiet_nil ?_
      intro _ hw'
      obtain ⟨⟨dq, osq⟩, hw''⟩ := hw'
      subst hw''
      have hEY : Below (w.alloc (.cells #[] 57)).heap.size (w.alloc (.cells #[] 57)) (Sort.grow (redrawn (w.alloc (.cells #[] 57)) dq) osq) := below_regrown (w.alloc (.cells #[] 57)) dq osq
      have hXq : Below w.heap.size w (Sort.grow (redrawn (w.alloc (.cells #[] 57)) dq) osq) := hX.trans (hEY.mono hX.size)
      generalize Sort.grow (redrawn (w.alloc (.cells #[] 57)) dq) osq = Y at *
      clear e1 e2 e3 e4 ci1 ci2 p0 d1 ci
      have ct0 := (C.CT.on hXq).g0.1
      by_cases h3 : (topV f.stk).1 = 3
      · have hsi : stepI p m f own (15, (a : Int), (b : Int)) = (m, 3) := by
          simp only [stepI]
          rw [if_neg C.step]
          simp [HFS.out, h3]
        rw [hsi] at HR
        rw [h3] at ct0
        clear hfb hbf hbf2 HFL HFS hcl
        go_wp2_with fail
        exact HR.out _ (C.TW.on hXq).st (hXq.mono (Nat.le_trans C.hB C.b0.size))
      · have hb3 : ((topV f.stk).1 == 3) = false := by simp [h3]
        have hYw : Below w0.heap.size w0 Y := C.b0.trans (hXq.mono C.b0.size)
        have hVR := valRefS (top_ok C.fok.sv hs1)
        obtain ⟨ah, chh, hvh⟩ := own_any C.T.own.h.own
        have m0 : Y.cell? ⟨M, 0, none⟩ = some (.slice ah m.heap.length chh) := by have := (C.TW.on hXq).cells.g0.1; rw [hvh] at this; exact this
        have cO : ∀ d os, Calls Try.prog 89 #[.agg #[.slice (some ⟨bp, po, none⟩) p.length cap], .pointer (some ⟨M, 0, none⟩), .agg #[.int .i64 (topV f.stk).1, .int .i64 (topV f.stk).2], .int .i64 (a : Int)] (Sort.grow (redrawn Y d) os) fun e w'' => e = .returned (.bool (objS p m.heap (topV f.stk) (a : Int))) ∧ ∃ q : Regrown, w'' = Sort.grow (redrawn Y q.d) q.os := fun d os => by
          have hr := below_regrown Y d os
          have hr2 : Below w.heap.size w (Sort.grow (redrawn Y d) os) := below_over hXq hr
          have hso := (C.TW.on hr2).own.h.so
          rw [hvh] at hso
          exact (l8Object_at Bp 0 p (some ⟨bp, po, none⟩) cap C.ok m.heap M ah chh (topV f.stk) hVR (a : Int) _ (SK.on C.skw (Keep.of hr2)) (cell_regrown m0 d os) hso).regrown_of
        have p0 := (C.P2.on hXq).g0.1
        have ct1 := (C.CT.on hXq).g1.1
        have ci0 := (C.CI.on hXq).g0.1
        have ci1 := (C.CI.on hXq).g1.1
        have ci2 := (C.CI.on hXq).g2.1
        have r0 := cell_regrown p0
        have r1 := cell_regrown ct0
        have r2 := cell_regrown ct1
        have r3 := cell_regrown ci0
        have r4 := cell_regrown ci1
        have r5 := cell_regrown ci2
        have r6 := cell_regrown m0
        cases ho : objS p m.heap (topV f.stk) (a : Int)
        · have hsi : stepI p m f own (15, (a : Int), (b : Int)) = (m, 6) := by
            simp only [stepI]
            rw [if_neg C.step]
            simp [HFS.out, h3, ho]
          rw [hsi] at HR
          rw [ho] at cO
          clear hfb hbf hbf2 HFL HFS hcl ho
          go_upto_region 61 with fail
          refine wp_region_quiet_below (by kernel_rfl) (by kernel_rfl) ?_
          repeat (go_big_quiet_step ((go_at_call 89; exact cO _ _)))
          refine wpQuiet_nil ?_
          intro _ hw'
          obtain ⟨⟨dq, osq⟩, hw''⟩ := hw'
          subst hw''
          have hXz : Below w.heap.size w (Sort.grow (redrawn Y dq) osq) := below_over hXq (below_regrown Y dq osq)
          generalize Sort.grow (redrawn Y dq) osq = Z at *
          clear r0 r1 r2 r3 r4 r5 r6 cO ct0 ct1 ci0 ci1 ci2 p0 m0
          go_wp2_with fail
          exact HR.out _ (C.TW.on hXz).st (hXz.mono (Nat.le_trans C.hB C.b0.size))
        · obtain ⟨h2, o, hoo⟩ := objS_of ho
          obtain ⟨i, hi⟩ := Int.eq_ofNat_of_zero_le (hVR h2)
          rw [hi, Int.toNat_natCast] at hoo
          have htv : topV f.stk = (2, (i : Int)) := Prod.ext h2 hi
          have hil := (List.getElem?_eq_some_iff.1 hoo).1
          have hii : (i : Int) < (m.heap.length : Int) := by omega
          obtain ⟨gH, cH, aF, cF, hvh2, hci, hgH, hob⟩ := C.obj hoo
          rw [hvh2] at hvh
          injection hvh with hv1 hv2 hv3
          subst hv1 hv3
          obtain ⟨o0, o1⟩ := hob Y hYw
          have r7 := cell_regrown o0
          have r8 := cell_regrown o1
          have hn24 := (C.core.ob o (List.mem_of_getElem? hoo)).1
          have cP : ∀ d os, Calls Try.prog 90 #[.agg #[.slice (some ⟨bp, po, none⟩) p.length cap], .agg #[.int .i64 15, .int .i64 (a : Int), .int .i64 (b : Int)], .agg #[.int .i64 o.cls, .slice aF o.flds.length cF]] (Sort.grow (redrawn Y d) os) fun e w'' => e = .returned (.int .i64 (placeI p (a : Int) (b : Int) o.flds.length)) ∧ ∃ q : Regrown, w'' = Sort.grow (redrawn Y q.d) q.os := fun d os =>
            (l8Place_at Bp p bp po cap C.ok 15 (a : Int) (b : Int) o.cls (by omega) (by omega) aF o.flds.length cF hn24 _ (SK.on C.skw (Keep.of (below_over hXq (below_regrown Y d os))))).regrown_of
          rw [ho] at cO
          by_cases hpl2 : o.flds.length ≤ placeS p (a : Int) (b : Int)
          · have hpi2 : placeI p (a : Int) (b : Int) o.flds.length = -1 := by unfold placeI; rw [if_pos (.inr hpl2)]
            have hsi : stepI p m f own (15, (a : Int), (b : Int)) = (m, 6) := by
              simp only [stepI]
              rw [if_neg C.step]
              rw [htv] at ho ⊢
              have : o.flds[placeS p (a : Int) (b : Int)]? = none := List.getElem?_eq_none hpl2
              simp [HFS.out, ho, hoo, this]
            rw [hsi] at HR
            rw [hpi2] at cP
            rw [htv] at ct0 ct1 r1 r2 cO
            clear hfb hbf hbf2 HFL HFS hcl ho hob hpi2 hpl2
            go_upto_region 61 with fail
            refine wp_region_quiet_below (by kernel_rfl) (by kernel_rfl) ?_
            repeat (go_big_quiet_step (first | (go_at_call 89; exact cO _ _) | (go_at_call 90; exact cP _ _)))
            refine wpQuiet_nil ?_
            intro _ hw'
            obtain ⟨⟨dq, osq⟩, hw''⟩ := hw'
            subst hw''
            have hXz : Below w.heap.size w (Sort.grow (redrawn Y dq) osq) := below_over hXq (below_regrown Y dq osq)
            generalize Sort.grow (redrawn Y dq) osq = Z at *
            clear r0 r1 r2 r3 r4 r5 r6 r7 r8 cO cP ct0 ct1 ci0 ci1 ci2 p0 m0 o0 o1
            go_wp2_with fail
            exact HR.out _ (C.TW.on hXz).st (hXz.mono (Nat.le_trans C.hB C.b0.size))
          · obtain ⟨k, hk⟩ : ∃ k, k = placeS p (a : Int) (b : Int) := ⟨_, rfl⟩
            have hkk : k < o.flds.length := by omega
            have hpi2 : placeI p (a : Int) (b : Int) o.flds.length = (k : Int) := by
              unfold placeI
              rw [if_neg (by rw [HFS.out]; simp; omega), hk]
            obtain ⟨gO, rfl, hgO, hBO, hfld⟩ := C.fld hoo hci hkk
            obtain ⟨x, hx⟩ : ∃ x, x = o.flds[k] := ⟨_, rfl⟩
            have hsi : stepI p m f own (15, (a : Int), (b : Int)) = onS m f 1 [x] (f.pos + 1) := by
              simp only [stepI]
              rw [if_neg C.step]
              rw [htv] at ho ⊢
              have : o.flds[placeS p (a : Int) (b : Int)]? = some x := by rw [← hk, hx]; exact List.getElem?_eq_getElem hkk
              simp [HFS.out, ho, hoo, this]
            rw [hsi] at HR
            rw [hpi2] at cP
            have HTV : Hid (topV f.stk = (2, (i : Int))) := htv
            have hki : (k : Int) < (o.flds.length : Int) := by omega
            have hkn : decide ((k : Int) < 0) = false := by simp
            have HALL : Hid (∀ X, Below w.heap.size w X → Below w.heap.size w X ∧ X.cell? ⟨M, 0, none⟩ = some (.slice (some ⟨gH, 0, none⟩) m.heap.length cH) ∧ X.cell? ⟨bt, 1, none⟩ = some (.int .i64 (i : Int)) ∧ X.cell? ⟨gH, i * 2, none⟩ = some (.int .i64 o.cls) ∧ X.cell? ⟨gH, i * 2 + 1, none⟩ = some (.slice (some ⟨gO, 0, none⟩) o.flds.length cF) ∧ X.cell? ⟨gO, k * 2, none⟩ = some (.int .i64 x.1) ∧ X.cell? ⟨gO, k * 2 + 1, none⟩ = some (.int .i64 x.2) ∧ X.cell? ⟨b2, 0, none⟩ = some (.slice (some ⟨bp, po, none⟩) p.length cap) ∧ X.cell? ⟨bi, 0, none⟩ = some (.int .i64 15) ∧ X.cell? ⟨bi, 1, none⟩ = some (.int .i64 (a : Int)) ∧ X.cell? ⟨bi, 2, none⟩ = some (.int .i64 (b : Int))) := fun X hX' => by
              have hXw : Below w0.heap.size w0 X := C.b0.trans (hX'.mono C.b0.size)
              obtain ⟨q0, q1⟩ := hob X hXw
              obtain ⟨f0, f1, _⟩ := hfld X hXw
              rw [← hx] at f0 f1
              have hm := (C.TW.on hX').cells.g0.1
              rw [hvh2] at hm
              have hbt1 := (C.CT.on hX').g1.1
              rw [HTV.out] at hbt1
              exact ⟨hX', hm, hbt1, q0, q1, f0, f1, (C.P2.on hX').g0.1, (C.CI.on hX').g0.1, (C.CI.on hX').g1.1, (C.CI.on hX').g2.1⟩
            rw [htv] at ct0 ct1 r1 r2 cO
            clear hfb hbf hbf2 HFL HFS hcl ho hob hpl2 hfld htv hx hk
            go_upto_region 61 with fail
            refine wp_region_quiet_below (by kernel_rfl) (by kernel_rfl) ?_
            repeat (go_big_quiet_step (first | (go_at_call 89; exact cO _ _) | (go_at_call 90; exact cP _ _)))
            refine wpQuiet_nil ?_
            intro _ hw'
            obtain ⟨⟨dq, osq⟩, hw''⟩ := hw'
            subst hw''
            have hEZ : Below (w.alloc (.cells #[] 57)).heap.size (w.alloc (.cells #[] 57)) (Sort.grow (redrawn Y dq) osq) := below_over hEY (below_regrown Y dq osq)
            have hXz : Below w.heap.size w (Sort.grow (redrawn Y dq) osq) := below_over hXq (below_regrown Y dq osq)
            generalize Sort.grow (redrawn Y dq) osq = Z at *
            clear r0 r1 r2 r3 r4 r5 r6 r7 r8 cO cP ct0 ct1 ci0 ci1 ci2 p0 m0 o0 o1
            go_upto_region 63 with fail
            have hEd : Below (w.alloc (.cells #[] 57)).heap.size (w.alloc (.cells #[] 57)) Z.drew := hEZ.drew
            have hXd : Below w.heap.size w Z.drew := hXz.drew
            have hH0 := HALL.out _ hXd
            have HPL : Hid (Calls Try.prog 90 #[.agg #[.slice (some ⟨bp, po, none⟩) p.length cap], .agg #[.int .i64 15, .int .i64 (a : Int), .int .i64 (b : Int)], .agg #[.int .i64 o.cls, .slice (some ⟨gO, 0, none⟩) o.flds.length cF]] Z.drew fun e w'' => e = .returned (.int .i64 (k : Int)) ∧ Below Z.drew.heap.size Z.drew w'') := by
              have := l8Place_at Bp p bp po cap C.ok 15 (a : Int) (b : Int) o.cls (by omega) (by omega) (some ⟨gO, 0, none⟩) o.flds.length cF hn24 Z.drew (SK.on C.skw (Keep.of hXd))
              rw [hpi2] at this
              exact this
            have HX2 : Hid (∀ w2, Below Z.drew.heap.size Z.drew w2 → Below w.heap.size w w2) := fun w2 h => below_over hXd h
            have HN : Hid (∀ w2 ob, Below Z.drew.heap.size Z.drew w2 → GrowV w.heap.size (w2.alloc ob) (.slice (some ⟨w.heap.size, 0, none⟩) ([] : List Vl).length 0) []) := fun w2 ob h => ((growV_nil w).on (below_over hEd h)).on ((Below.refl _ _).alloc (Nat.le_refl _) _)
            have HSV : Hid (∀ w2 : World, SV true 0 (w2.alloc (.cells #[.int .i64 x.1, .int .i64 x.2] 57)) (.slice (some ⟨w2.heap.size, 0, none⟩) ([x] : List Vl).length 1) [x]) := fun w2 => sv_one (Cells.new w2 _ rfl _ _)
            have HSZ : Hid (∀ w2 ob, Below Z.drew.heap.size Z.drew w2 → w.heap.size ≤ (w2.alloc ob).heap.size) := fun w2 ob h => by have := (below_over hXd h).size; rw [World.size_alloc]; omega
            clear hpi2
            refine wp_region_held_drew (S := (fun X => Below w.heap.size w X ∧ X.cell? ⟨M, 0, none⟩ = some (.slice (some ⟨gH, 0, none⟩) m.heap.length cH) ∧ X.cell? ⟨bt, 1, none⟩ = some (.int .i64 (i : Int)) ∧ X.cell? ⟨gH, i * 2, none⟩ = some (.int .i64 o.cls) ∧ X.cell? ⟨gH, i * 2 + 1, none⟩ = some (.slice (some ⟨gO, 0, none⟩) o.flds.length cF) ∧ X.cell? ⟨gO, k * 2, none⟩ = some (.int .i64 x.1) ∧ X.cell? ⟨gO, k * 2 + 1, none⟩ = some (.int .i64 x.2) ∧ X.cell? ⟨b2, 0, none⟩ = some (.slice (some ⟨bp, po, none⟩) p.length cap) ∧ X.cell? ⟨bi, 0, none⟩ = some (.int .i64 15) ∧ X.cell? ⟨bi, 1, none⟩ = some (.int .i64 (a : Int)) ∧ X.cell? ⟨bi, 2, none⟩ = some (.int .i64 (b : Int)))) (by kernel_rfl) hH0 (fun hHeld => ?_)
            refine wpAnyH_take (i := 0) (v := ?_) rfl (by kernel_rfl) (by kernel_rfl) (by kernel_rfl) (fun _ _ _ h => h) (Or.inl ⟨by rfl, ?_⟩) hHeld ?_
            rotate_left 1
            · intro w' hSw
              obtain ⟨_, y1, y2, y3, y4, y5, y6, y7, y8, y9, yA⟩ := hSw
              go_simp
              try with_reducible rfl
            simp only [Act.put, List.getElem_toArray, List.getElem_cons_zero]
            refine wpAnyH_take (i := 1) (v := ?_) rfl (by kernel_rfl) (by kernel_rfl) (by kernel_rfl) (fun _ _ _ h => h) (Or.inl ⟨by rfl, ?_⟩) hHeld ?_
            rotate_left 1
            · intro w' hSw
              obtain ⟨_, y1, y2, y3, y4, y5, y6, y7, y8, y9, yA⟩ := hSw
              go_simp
              try with_reducible rfl
            simp only [Act.put, List.getElem_toArray, List.getElem_cons_zero, List.getElem_cons_succ]
            refine wpAnyH_take (i := 2) (v := ?_) rfl (by kernel_rfl) (by kernel_rfl) (by kernel_rfl) (fun _ _ _ h => h) (Or.inl ⟨by rfl, ?_⟩) hHeld ?_
            rotate_left 1
            · intro w' hSw
              obtain ⟨_, y1, y2, y3, y4, y5, y6, y7, y8, y9, yA⟩ := hSw
              go_simp
              try with_reducible rfl
            simp only [Act.put, List.getElem_toArray, List.getElem_cons_zero, List.getElem_cons_succ]
            refine wpAnyH_take (i := 3) (v := ?_) rfl (by kernel_rfl) (by kernel_rfl) (by kernel_rfl) (fun _ _ _ h => h) (Or.inl ⟨by rfl, ?_⟩) hHeld ?_
            rotate_left 1
            · intro w' hSw
              obtain ⟨_, y1, y2, y3, y4, y5, y6, y7, y8, y9, yA⟩ := hSw
              go_simp
              try with_reducible rfl
            simp only [Act.put, List.getElem_toArray, List.getElem_cons_zero, List.getElem_cons_succ]
            refine wpAnyH_take (i := 4) (v := ?_) rfl (by kernel_rfl) (by kernel_rfl) (by kernel_rfl) (fun _ _ _ h => h) (Or.inl ⟨by rfl, ?_⟩) hHeld ?_
            rotate_left 1
            · intro w' hSw
              obtain ⟨_, y1, y2, y3, y4, y5, y6, y7, y8, y9, yA⟩ := hSw
              go_simp
              try with_reducible rfl
            simp only [Act.put, List.getElem_toArray, List.getElem_cons_zero, List.getElem_cons_succ]
            refine wpAnyH_take (i := 5) (v := ?_) rfl (by kernel_rfl) (by kernel_rfl) (by kernel_rfl) (fun _ _ _ h => h) (Or.inl ⟨by rfl, ?_⟩) hHeld ?_
            rotate_left 1
            · intro w' hSw
              obtain ⟨_, y1, y2, y3, y4, y5, y6, y7, y8, y9, yA⟩ := hSw
              go_simp
              try with_reducible rfl
            simp only [Act.put, List.getElem_toArray, List.getElem_cons_zero, List.getElem_cons_succ]
            refine wpAnyH_take (i := 6) (v := ?_) rfl (by kernel_rfl) (by kernel_rfl) (by kernel_rfl) (fun _ _ _ h => h) (Or.inl ⟨by rfl, ?_⟩) hHeld ?_
            rotate_left 1
            · intro w' hSw
              obtain ⟨_, y1, y2, y3, y4, y5, y6, y7, y8, y9, yA⟩ := hSw
              go_simp
              try with_reducible rfl
            simp only [Act.put, List.getElem_toArray, List.getElem_cons_zero, List.getElem_cons_succ]
            refine wpAnyH_take (i := 7) (v := ?_) rfl (by kernel_rfl) (by kernel_rfl) (by kernel_rfl) (fun _ _ _ h => h) (Or.inl ⟨by rfl, ?_⟩) hHeld ?_
            rotate_left 1
            · intro w' hSw
              obtain ⟨_, y1, y2, y3, y4, y5, y6, y7, y8, y9, yA⟩ := hSw
              go_simp
              try with_reducible rfl
            simp only [Act.put, List.getElem_toArray, List.getElem_cons_zero, List.getElem_cons_succ]
            refine wpAnyH_take (i := 8) (v := ?_) rfl (by kernel_rfl) (by kernel_rfl) (by kernel_rfl) (fun _ _ _ h => h) (Or.inl ⟨by rfl, ?_⟩) hHeld ?_
            rotate_left 1
            · intro w' hSw
              obtain ⟨_, y1, y2, y3, y4, y5, y6, y7, y8, y9, yA⟩ := hSw
              go_simp
              try with_reducible rfl
            simp only [Act.put, List.getElem_toArray, List.getElem_cons_zero, List.getElem_cons_succ]
            refine wpAnyH_take (i := 9) (v := ?_) rfl (by kernel_rfl) (by kernel_rfl) (by kernel_rfl) (fun _ _ _ h => h) (Or.inl ⟨by rfl, ?_⟩) hHeld ?_
            rotate_left 1
            · intro w' hSw
              obtain ⟨_, y1, y2, y3, y4, y5, y6, y7, y8, y9, yA⟩ := hSw
              go_simp
              try with_reducible rfl
            simp only [Act.put, List.getElem_toArray, List.getElem_cons_zero, List.getElem_cons_succ]
            refine wpAnyH_take (i := 10) (v := ?_) rfl (by kernel_rfl) (by kernel_rfl) (by kernel_rfl) (fun _ _ _ h => h) (Or.inl ⟨by rfl, ?_⟩) hHeld ?_
            rotate_left 1
            · intro w' hSw
              obtain ⟨_, y1, y2, y3, y4, y5, y6, y7, y8, y9, yA⟩ := hSw
              go_simp
              try with_reducible rfl
            simp only [Act.put, List.getElem_toArray, List.getElem_cons_zero, List.getElem_cons_succ]
            refine wpAnyH_take (i := 11) (v := ?_) rfl (by kernel_rfl) (by kernel_rfl) (by kernel_rfl) (fun _ _ _ h => h) (Or.inl ⟨by rfl, ?_⟩) hHeld ?_
            rotate_left 1
            · intro w' hSw
              obtain ⟨_, y1, y2, y3, y4, y5, y6, y7, y8, y9, yA⟩ := hSw
              go_simp
              try with_reducible rfl
            simp only [Act.put, List.getElem_toArray, List.getElem_cons_zero, List.getElem_cons_succ]
            refine wpAnyH_take (i := 12) (v := ?_) rfl (by kernel_rfl) (by kernel_rfl) (by kernel_rfl) (fun _ _ _ h => h) (Or.inl ⟨by rfl, ?_⟩) hHeld ?_
            rotate_left 1
            · intro w' hSw
              obtain ⟨_, y1, y2, y3, y4, y5, y6, y7, y8, y9, yA⟩ := hSw
              go_simp
              try with_reducible rfl
            simp only [Act.put, List.getElem_toArray, List.getElem_cons_zero, List.getElem_cons_succ]
            refine wpAnyH_take (i := 13) (v := ?_) rfl (by kernel_rfl) (by kernel_rfl) (by kernel_rfl) (fun _ _ _ h => h) (Or.inl ⟨by rfl, ?_⟩) hHeld ?_
            rotate_left 1
            · intro w' hSw
              obtain ⟨_, y1, y2, y3, y4, y5, y6, y7, y8, y9, yA⟩ := hSw
              go_simp
              try with_reducible rfl
            simp only [Act.put, List.getElem_toArray, List.getElem_cons_zero, List.getElem_cons_succ]
            refine wpAnyH_take (i := 14) (v := ?_) rfl (by kernel_rfl) (by kernel_rfl) (by kernel_rfl) (fun _ _ _ h => h) (Or.inl ⟨by rfl, ?_⟩) hHeld ?_
            rotate_left 1
            · intro w' hSw
              obtain ⟨_, y1, y2, y3, y4, y5, y6, y7, y8, y9, yA⟩ := hSw
              go_simp
              try with_reducible rfl
            simp only [Act.put, List.getElem_toArray, List.getElem_cons_zero, List.getElem_cons_succ]
            refine wpAnyH_take (i := 15) (v := ?_) rfl (by kernel_rfl) (by kernel_rfl) (by kernel_rfl) (fun _ _ _ h => h) (Or.inl ⟨by rfl, ?_⟩) hHeld ?_
            rotate_left 1
            · intro w' hSw
              obtain ⟨_, y1, y2, y3, y4, y5, y6, y7, y8, y9, yA⟩ := hSw
              go_simp
              try with_reducible rfl
            simp only [Act.put, List.getElem_toArray, List.getElem_cons_zero, List.getElem_cons_succ]
            refine wpAnyH_take (i := 16) (v := ?_) rfl (by kernel_rfl) (by kernel_rfl) (by kernel_rfl) (fun _ _ _ h => h) (Or.inl ⟨by rfl, ?_⟩) hHeld ?_
            rotate_left 1
            · intro w' hSw
              obtain ⟨_, y1, y2, y3, y4, y5, y6, y7, y8, y9, yA⟩ := hSw
              go_simp
              try with_reducible rfl
            simp only [Act.put, List.getElem_toArray, List.getElem_cons_zero, List.getElem_cons_succ]
            refine wpAnyH_take (i := 17) (v := ?_) rfl (by kernel_rfl) (by kernel_rfl) (by kernel_rfl) (fun _ _ _ h => h) (Or.inl ⟨by rfl, ?_⟩) hHeld ?_
            rotate_left 1
            · intro w' hSw
              obtain ⟨_, y1, y2, y3, y4, y5, y6, y7, y8, y9, yA⟩ := hSw
              go_simp
              try with_reducible rfl
            simp only [Act.put, List.getElem_toArray, List.getElem_cons_zero, List.getElem_cons_succ]
            refine wpAnyH_take (i := 18) (v := ?_) rfl (by kernel_rfl) (by kernel_rfl) (by kernel_rfl) (fun _ _ _ h => h) (Or.inl ⟨by rfl, ?_⟩) hHeld ?_
            rotate_left 1
            · intro w' hSw
              obtain ⟨_, y1, y2, y3, y4, y5, y6, y7, y8, y9, yA⟩ := hSw
              go_simp
              try with_reducible rfl
            simp only [Act.put, List.getElem_toArray, List.getElem_cons_zero, List.getElem_cons_succ]
            refine wpAnyH_take (i := 19) (v := ?_) rfl (by kernel_rfl) (by kernel_rfl) (by kernel_rfl) (fun _ _ _ h => h) (Or.inl ⟨by rfl, ?_⟩) hHeld ?_
            rotate_left 1
            · intro w' hSw
              obtain ⟨_, y1, y2, y3, y4, y5, y6, y7, y8, y9, yA⟩ := hSw
              go_simp
              try with_reducible rfl
            simp only [Act.put, List.getElem_toArray, List.getElem_cons_zero, List.getElem_cons_succ]
            refine wpAnyH_ready (rs := [20]) (by kernel_rfl) (by simp) ?_
            refine AllReadyH.cons rfl (fun K2 hK2 => ?_) AllReadyH.nil
            go_simp
            refine HPL.out.mono ?_
            rintro e w2 ⟨rfl, hb2⟩
            dsimp only
            have hXw2 := HX2.out w2 hb2
            refine hK2.out _ _ (HALL.out w2 hXw2) (fun hHeld => ?_)
            clear hK2 K2
            refine wpAnyH_take (i := 21) (v := ?_) rfl (by kernel_rfl) (by kernel_rfl) (by kernel_rfl) (fun _ _ _ h => h) (Or.inl ⟨by rfl, ?_⟩) hHeld ?_
            rotate_left 1
            · intro w' hSw
              obtain ⟨_, y1, y2, y3, y4, y5, y6, y7, y8, y9, yA⟩ := hSw
              go_simp
              try with_reducible rfl
            simp only [Act.put, List.getElem_toArray, List.getElem_cons_zero, List.getElem_cons_succ]
            refine wpAnyH_take (i := 22) (v := ?_) rfl (by kernel_rfl) (by kernel_rfl) (by kernel_rfl) (fun _ _ _ h => h) (Or.inl ⟨by rfl, ?_⟩) hHeld ?_
            rotate_left 1
            · intro w' hSw
              obtain ⟨_, y1, y2, y3, y4, y5, y6, y7, y8, y9, yA⟩ := hSw
              go_simp
              try with_reducible rfl
            simp only [Act.put, List.getElem_toArray, List.getElem_cons_zero, List.getElem_cons_succ]
            refine wpAnyH_ready (rs := [23]) (by kernel_rfl) (by simp) ?_
            refine AllReadyH.cons rfl (fun K2 hK2 => ?_) AllReadyH.nil
            go_simp
            refine hK2.out _ _ (HALL.out _ (hXw2.alloc hXw2.size _)) (fun hHeld => ?_)
            clear hK2 K2
            refine wpAnyH_ready (rs := [24]) (by kernel_rfl) (by simp) ?_
            refine AllReadyH.cons rfl (fun K2 hK2 => ?_) AllReadyH.nil
            refine stepGrowV _ rfl (.tmp 339) (.tmp 362) rfl w.heap.size w.heap.size 0 [] (by simp [Act.eval]) (HN.out w2 _ hb2) (HSZ.out w2 _ hb2) (some ⟨w2.heap.size, 0, none⟩) 1 0 [x] (by simp [Act.eval]) (HSV.out w2) (by simp) ?_
            intro g1 c1 w1 G1 B1 E1 O1
            have hXb1 : Below w.heap.size w w1 := (hXw2.alloc hXw2.size _).trans B1
            refine hK2.out _ _ (HALL.out _ hXb1) (fun hHeld => ?_)
            clear hK2 K2 B1 E1 O1
            simp only [Act.put, List.getElem_toArray, List.getElem_cons_zero, List.getElem_cons_succ]
            refine wpAnyH_take (i := 25) (v := ?_) rfl (by kernel_rfl) (by kernel_rfl) (by kernel_rfl) (fun _ _ _ h => h) (Or.inl ⟨by rfl, ?_⟩) hHeld ?_
            rotate_left 1
            · intro w' hSw
              obtain ⟨_, y1, y2, y3, y4, y5, y6, y7, y8, y9, yA⟩ := hSw
              go_simp
              try with_reducible rfl
            simp only [Act.put, List.getElem_toArray, List.getElem_cons_zero, List.getElem_cons_succ]
            refine wpAnyH_done (by kernel_rfl) ?_ _
            have hX1 : Below w.heap.size w w1 := hXb1
            have HG1 : Hid (GrowV w.heap.size w1 (.slice (some ⟨g1, 0, none⟩) ([x] : List Vl).length c1) [x]) := by show GrowV _ _ _ _; simpa using G1
            clear hHeld G1 HN HSV HSZ HPL HALL hH0
            go_wp2_with fail
            refine C.tail hX1 HG1.out.vz.sv (by simp) R ?_
            intro w' hM hb'
            exact HR.out w' (by simpa [takesS] using hM) hb'
    · have hbf : decide ((b : Int) ≥ (p[a].fields.length : Int)) = true := by simp; omega
      have hsi : stepI p m f own (15, (a : Int), (b : Int)) = (m, 6) := by
        simp only [stepI]
        rw [if_neg C.step]
        simp [HFL.out, hfb]
      rw [hsi] at HR
      generalize p[a].fields.length = nf at *
      unfold c8
      conv => arg 2; whnf
      go_upto_region 57 with fail
      refine wp_region_quiet_below (by kernel_rfl) (by kernel_rfl) ?_
      repeat (go_big_quiet_step (fail))
      refine wpQuiet_nil ?_
      intro _ hw'
      obtain ⟨⟨dq, osq⟩, hw''⟩ := hw'
      subst hw''
      have hXq := hX.trans ((below_regrown (w.alloc (.cells #[] 57)) dq osq).mono hX.size)
      generalize Sort.grow (redrawn (w.alloc (.cells #[] 57)) dq) osq = Y at *
      clear e1 e2 e3 e4 ci1 ci2 p0 d1 ci
      go_wp2_with fail
      exact HR.out _ (C.TW.on hXq).st (hXq.mono (Nat.le_trans C.hB C.b0.size))
  · have hli : (p.length : Int) ≤ (a : Int) := by omega
    have hbp : decide ((a : Int) ≥ (p.length : Int)) = true := by simp; omega
    have hsi : stepI p m f own (15, (a : Int), (b : Int)) = (m, 6) := by
      simp only [stepI]
      rw [if_neg C.step]
      have : fldS p (a : Int) (b : Int) = none := by unfold fldS; rw [Int.toNat_natCast, List.getElem?_eq_none (by omega)]
      simp [this]
    rw [hsi] at HR
    unfold c8
    conv => arg 2; whnf
    go_upto_region 57 with fail
    refine wp_region_quiet_below (by kernel_rfl) (by kernel_rfl) ?_
    repeat (go_big_quiet_step (fail))
    refine wpQuiet_nil ?_
    intro _ hw'
    obtain ⟨⟨dq, osq⟩, hw''⟩ := hw'
    subst hw''
    have hXq := hX.trans ((below_regrown (w.alloc (.cells #[] 57)) dq osq).mono hX.size)
    generalize Sort.grow (redrawn (w.alloc (.cells #[] 57)) dq) osq = Y at *
    clear e1 e2 e3 ci1 ci2 p0 ci
    go_wp2_with fail
    exact HR.out _ (C.TW.on hXq).st (hXq.mono (Nat.le_trans C.hB C.b0.size))
end Pg
end Go.Proofs.Ytffkkhaiedhaiaa

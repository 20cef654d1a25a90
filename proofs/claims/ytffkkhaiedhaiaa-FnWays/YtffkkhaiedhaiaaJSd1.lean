/- The step, op by op: 2, 3. -/
import Derived.Test.YtffkkhaiedhaiaaJMt0
import Derived.Test.YtffkkhaiedhaiaaJMp2
import Derived.Test.YtffkkhaiedhaiaaJGv0
import Derived.Test.YtffkkhaiedhaiaaJPi3
namespace Go.Proofs.Ytffkkhaiedhaiaa
namespace Pg
open Go.ChangeShapes Go.WideShapes Go.ChangeAt Go.RowKit St Wd

variable {Bp : Nat} {p : Prg} {bp po cap B M : Nat} {m : Mc} {q : Nat} {f : Fr} {own : Meth} {op A Bi : Int} {b2 b6 bi bt G fcap : Nat} {vS vL vh vs vA : Value} {gc cc : Nat} {ch cf : List (List Value)} {Th Tf : Nat → Nat → Nat → Prop} {w0 w : World}
theorem meetM {P G : Prop} (h : P → G) (p : P) : G := h p
theorem StepC.locs (C : StepC Bp p bp po cap B M m q f own op A Bi b2 b6 bi bt G fcap vS vL vh vs vA gc cc ch cf Th Tf w0 w) :
    ∃ gL cL, vL = .slice (some ⟨gL, 0, none⟩) f.loc.length cL ∧ gL < w0.heap.size ∧ (gL ≠ G ∧ B ≤ gL) ∧ ∀ X, Below w0.heap.size w0 X → (∀ j (h : j < f.loc.length), X.cell? ⟨gL, j * 2, none⟩ = some (.int .i64 (f.loc[j]).1) ∧ X.cell? ⟨gL, j * 2 + 1, none⟩ = some (.int .i64 (f.loc[j]).2)) ∧ ∀ j, j < f.loc.length * 2 → X.frozen? ⟨gL, j, none⟩ = false := by
  rcases C.T.loc with ⟨g, c, hv, h1, h2, h3, h4⟩ | ⟨_, hl⟩
  · refine ⟨g, _, hv, h2, ⟨fun e => ?_, C.T.own.low g (.inr (.inl (.inr ⟨q, 1, h1⟩)))⟩, fun X hX => ⟨fun j hj => ?_, fun j hj => ?_⟩⟩
    · subst e
      exact C.T.own.f.off q 1 g h1 rfl
    · obtain ⟨c0, c1⟩ := h3 j _ (List.getElem?_eq_getElem hj)
      exact ⟨(hX.cell (p := ⟨g, j * 2, none⟩) h2).trans c0, (hX.cell (p := ⟨g, j * 2 + 1, none⟩) h2).trans c1⟩
    · exact (hX.frozen (p := ⟨g, j, none⟩) h2).trans (h4 j hj).2
  · have := C.fok.l8
    rw [hl] at this
    simp at this
theorem withTop_same {m : Mc} {q : Nat} (h : m.frames.length = q + 1) (x y : Fr) : withTop { m with frames := m.frames.set q y } x = withTop m x := by
  unfold withTop
  have e : (m.frames.set q y).dropLast = m.frames.dropLast := by
    apply List.ext_getElem?
    intro j
    rw [List.getElem?_dropLast, List.getElem?_dropLast, List.length_set, h]
    by_cases hj : j < q + 1 - 1
    · rw [if_pos hj, if_pos hj, List.getElem?_set, if_neg (by omega)]
    · rw [if_neg hj, if_neg hj]
  dsimp only
  rw [e]
set_option maxRecDepth 100000 in
set_option maxHeartbeats 4000000 in
theorem stepOp2 (C : StepC Bp p bp po cap B M m q f own 2 A Bi b2 b6 bi bt G fcap vS vL vh vs vA gc cc ch cf Th Tf w0 w) (R : Ending → World → Prop)
    (hR : ∀ w', MSt B M w' (stepI p m f own (2, A, Bi)).1 → Below B w w' → R (.returned (.int .i64 (stepI p m f own (2, A, Bi)).2)) w') (K : Act → World → Prop) (hK : ∀ a w', Code.wp Try.prog (c8 [true, true, true, true, true, true, true, true, true, true, true, true, true, true, true]) (bodyPost Try.prog Try.f56 R) a w' → K a w')
    {u0 u3 u4 u14 u15 u16 u17 u18 u19 u20 u21 u22 u23 u24 u25 u26 u27 u28 u29 u30 u31 u32 u33 u34 u35 u36 u37 u38 u39 u40 u41 u42 u43 u44 u45 u46 u47 u48 u49 u50 u51 u52 u53 u54 u55 u56 u57 u58 u59 u60 u61 u62 u63 u64 u65 u66 u67 u68 u69 u70 u71 u72 u73 u74 u75 u76 u77 u78 u79 u80 u81 u82 u83 u84 u85 u86 u87 u88 u89 u90 u91 u92 u93 u94 u95 u96 u97 u98 u99 u100 u101 u102 u103 u104 u105 u106 u107 u108 u109 u110 u111 u112 u113 u114 u115 u116 u117 u118 u119 u120 u121 u122 u123 u124 u125 u126 u127 u128 u129 u130 u131 u132 u133 u134 u135 u136 u137 u138 u139 u140 u141 u142 u143 u144 u145 u146 : Value} : Code.wp Try.prog (c8 [true, true, true, true, true, true, true, true, true, true, true, true, true, true, false]) (Exit.then K (bodyPost Try.prog Try.f56 R)) { tmps := #[u0, .pointer (some ⟨M, 0, none⟩), .pointer (some ⟨b2, 0, none⟩), u3, u4, .pointer (some ⟨G, q * 5, none⟩), .pointer (some ⟨b6, 0, none⟩), .pointer (some ⟨bi, 0, none⟩), .int .i64 (f.stk.length : Int), .int .i64 (takesS 2 : Int), .pointer (some ⟨bt, 0, none⟩), .pointer (some ⟨bt + 1, 0, none⟩), .slice (some ⟨w.heap.size, 0, none⟩) 0 0, undef, u14, u15, u16, u17, u18, u19, u20, u21, u22, u23, u24, u25, u26, u27, u28, u29, u30, u31, u32, u33, u34, u35, u36, u37, u38, u39, u40, u41, u42, u43, u44, u45, u46, u47, u48, u49, u50, u51, u52, u53, u54, u55, u56, u57, u58, u59, u60, u61, u62, u63, u64, u65, u66, u67, u68, u69, u70, u71, u72, u73, u74, u75, u76, u77, u78, u79, u80, u81, u82, u83, u84, u85, u86, u87, u88, u89, u90, u91, u92, u93, u94, u95, u96, u97, u98, u99, u100, u101, u102, u103, u104, u105, u106, u107, u108, u109, u110, u111, u112, u113, u114, u115, u116, u117, u118, u119, u120, u121, u122, u123, u124, u125, u126, u127, u128, u129, u130, u131, u132, u133, u134, u135, u136, u137, u138, u139, u140, u141, u142, u143, u144, u145, u146, undef, undef, undef, undef, undef, undef, undef, undef, undef, undef, undef, undef, undef, undef, undef, undef, undef, undef, undef, undef, undef, undef, undef, undef, undef, undef, undef, undef, undef, undef, undef, undef, undef, undef, undef, undef, undef, undef, undef, undef, undef, undef, undef, undef, undef, undef, undef, undef, undef, undef, undef, undef, undef, undef, undef, undef, undef, undef, undef, undef, undef, undef, undef, undef, undef, undef, undef, undef, undef, undef, undef, undef, undef, undef, undef, undef, undef, undef, undef, undef, undef, undef, undef, undef, undef, undef, undef, undef, undef, undef, undef, undef, undef, undef, undef, undef, undef, undef, undef, undef, undef, undef, undef, undef, undef, undef, undef, undef, undef, undef, undef, undef, undef, undef, undef, undef, undef, undef, undef, undef, undef, undef, undef, undef, undef, undef, undef, undef, undef, undef, undef, undef, undef, undef, undef, undef, undef, undef, undef, undef, undef, undef, undef, undef, undef, undef, undef, undef, undef, undef, undef, undef, undef, undef, undef, undef, undef, undef, undef, undef, undef, undef, undef, undef, undef, undef, undef, undef, undef, undef, undef, undef, undef, undef, undef, undef, undef, undef, undef, undef, undef, undef, undef, undef, undef, undef, undef, undef, undef, undef, undef, undef, undef, undef, undef, undef, undef, undef, undef, undef, undef, undef, undef, undef, undef, undef, undef, undef, undef, undef, undef, undef, undef, undef, undef, undef, undef, undef, undef, undef, undef, undef, undef, undef, undef, undef, undef, undef, undef, undef, undef, undef, undef, undef, undef, undef, undef, undef, undef, undef, undef, undef, undef, undef, undef, undef, undef, undef, undef, undef, undef, undef, undef, undef, undef, undef, undef, undef, undef, undef, undef, undef, undef, undef, undef, undef, undef, undef, undef, undef, undef, undef, undef, undef, undef, undef, undef, undef, undef, undef, undef, undef, undef, undef, undef, undef, undef, undef, undef, undef, undef, undef, undef, undef, undef, undef, undef, undef, undef, undef, undef, undef, undef, undef, undef, undef, undef, undef, undef, undef, undef, undef, undef, undef, undef, undef, undef, undef, undef, undef, undef, undef, undef, undef, undef, undef, undef, undef, undef, undef, undef, undef, undef, undef, undef, undef, undef, undef, undef, undef, undef, undef, undef, undef, undef, undef, undef, undef, undef, undef, undef, undef, undef, undef, undef, undef, undef, undef, undef, undef, undef, undef, undef, undef, undef, undef, undef, undef, undef, undef, undef, undef, undef, undef, undef, undef], defers := [] } (w.alloc (.cells #[] 57)) := by
  have hX : Below w.heap.size w (w.alloc (.cells #[] 57)) := (Below.refl _ _).alloc (Nat.le_refl _) _
  have ci := (C.CI.on hX).g0.1
  have HR : Hid (∀ w', MSt B M w' (stepI p m f own (2, A, Bi)).1 → Below B w w' → R (.returned (.int .i64 (stepI p m f own (2, A, Bi)).2)) w') := hR
  clear hR
  have hA : 0 ≤ A ∧ A < 8 := by have := C.okI; unfold Tx.okI Tx.limA at this; simp at this; omega
  obtain ⟨a, rfl⟩ := Int.eq_ofNat_of_zero_le hA.1
  have ha : a < f.loc.length := by have := C.fok.l8; omega
  have hai : (a : Int) < (f.loc.length : Int) := by omega
  obtain ⟨gL, cL, rfl, hgL, _, hloc⟩ := C.locs
  obtain ⟨x, hx⟩ : ∃ x, x = f.loc[a] := ⟨_, rfl⟩
  have hsi : stepI p m f own (2, (a : Int), Bi) = onS m f 0 [x] (f.pos + 1) := by
    simp only [stepI]
    rw [if_neg C.step]
    simp [ha, hx]
  rw [hsi] at HR
  have hXd : Below w.heap.size w (w.alloc (.cells #[] 57)).drew := hX.drew
  have c4 : (w.alloc (.cells #[] 57)).drew.cell? ⟨G, q * 5 + 4, none⟩ = some (.slice (some ⟨gL, 0, none⟩) f.loc.length cL) := (C.TW.on hXd).cell (d := 4) (by omega)
  have c1 := (C.CI.on hXd).g1.1
  obtain ⟨x0, x1⟩ := (hloc _ (C.b0.trans (hXd.mono C.b0.size))).1 a ha
  rw [← hx] at x0 x1
  have HW : Below w.heap.size w ((w.alloc (.cells #[] 57)).drew.alloc (.cells #[.int .i64 x.1, .int .i64 x.2] 57)) := hXd.alloc hXd.size _
  have HW' : Below w.heap.size w ((w.alloc (.cells #[] 57)).alloc (.cells #[.int .i64 x.1, .int .i64 x.2] 57)).drew := (hX.alloc hX.size _).drew
  have HN2 : Hid (GrowV w.heap.size ((w.alloc (.cells #[] 57)).alloc (.cells #[.int .i64 x.1, .int .i64 x.2] 57)).drew (.slice (some ⟨w.heap.size, 0, none⟩) ([] : List Vl).length 0) []) := (growV_nil w).on (((Below.refl _ _).alloc (Nat.le_refl _) _).drew)
  have HSV : Hid (SV true 0 ((w.alloc (.cells #[] 57)).alloc (.cells #[.int .i64 x.1, .int .i64 x.2] 57)).drew (.slice (some ⟨w.heap.size + 1, 0, none⟩) ([x] : List Vl).length 1) [x]) := by
    have := sv_one (c := 1) (Cells.drewC (Cells.new (w.alloc (.cells #[] 57)) _ rfl [.int .i64 x.1, .int .i64 x.2] 57))
    rw [World.size_alloc] at this
    exact this
  have hsz : w.heap.size ≤ ((w.alloc (.cells #[] 57)).alloc (.cells #[.int .i64 x.1, .int .i64 x.2] 57)).drew.heap.size := HW'.size
  clear hloc hx
  unfold c8
  conv => arg 2; whnf
  go_upto_region 23 with fail
  apply meetM
  case h => intro hp; go_region_law (first
    | (refine stepGrowV _ rfl (.tmp 159) (.tmp 168) rfl w.heap.size w.heap.size 0 [] (by simp [Act.eval]) HN2.out hsz (some ⟨w.heap.size + 1, 0, none⟩) 1 0 [x] (by simp [Act.eval]) HSV.out (by simp) ?_; intro g1 c1' w1 G1 B1 E1 O1; dsimp only)); all_goals (revert g1 c1' w1 G1 B1 E1 O1; exact hp)
  intro g1 c1' w1 G1 B1 E1 O1
  have hX1 : Below w.heap.size w w1 := HW'.trans B1
  have HG1 : Hid (GrowV w.heap.size w1 (.slice (some ⟨g1, 0, none⟩) ([x] : List Vl).length c1') [x]) := by show GrowV _ _ _ _; simpa using G1
  clear G1 B1 E1 O1 HN2 HSV x0 x1 c4 c1
  go_wp2_with fail
  refine C.tail hX1 HG1.out.vz.sv (by simp) R ?_
  intro w' hM hb'
  exact HR.out w' (by simpa [takesS] using hM) hb'
set_option maxRecDepth 100000 in
set_option maxHeartbeats 4000000 in
theorem stepOp3 (C : StepC Bp p bp po cap B M m q f own 3 A Bi b2 b6 bi bt G fcap vS vL vh vs vA gc cc ch cf Th Tf w0 w) (R : Ending → World → Prop)
    (hR : ∀ w', MSt B M w' (stepI p m f own (3, A, Bi)).1 → Below B w w' → R (.returned (.int .i64 (stepI p m f own (3, A, Bi)).2)) w') (K : Act → World → Prop) (hK : ∀ a w', Code.wp Try.prog (c8 [true, true, true, true, true, true, true, true, true, true, true, true, true, true, true]) (bodyPost Try.prog Try.f56 R) a w' → K a w')
    {u0 u3 u4 u14 u15 u16 u17 u18 u19 u20 u21 u22 u23 u24 u25 u26 u27 u28 u29 u30 u31 u32 u33 u34 u35 u36 u37 u38 u39 u40 u41 u42 u43 u44 u45 u46 u47 u48 u49 u50 u51 u52 u53 u54 u55 u56 u57 u58 u59 u60 u61 u62 u63 u64 u65 u66 u67 u68 u69 u70 u71 u72 u73 u74 u75 u76 u77 u78 u79 u80 u81 u82 u83 u84 u85 u86 u87 u88 u89 u90 u91 u92 u93 u94 u95 u96 u97 u98 u99 u100 u101 u102 u103 u104 u105 u106 u107 u108 u109 u110 u111 u112 u113 u114 u115 u116 u117 u118 u119 u120 u121 u122 u123 u124 u125 u126 u127 u128 u129 u130 u131 u132 u133 u134 u135 u136 u137 u138 u139 u140 u141 u142 u143 u144 u145 u146 : Value} : Code.wp Try.prog (c8 [true, true, true, true, true, true, true, true, true, true, true, true, true, true, false]) (Exit.then K (bodyPost Try.prog Try.f56 R)) { tmps := #[u0, .pointer (some ⟨M, 0, none⟩), .pointer (some ⟨b2, 0, none⟩), u3, u4, .pointer (some ⟨G, q * 5, none⟩), .pointer (some ⟨b6, 0, none⟩), .pointer (some ⟨bi, 0, none⟩), .int .i64 (f.stk.length : Int), .int .i64 (takesS 3 : Int), .pointer (some ⟨bt, 0, none⟩), .pointer (some ⟨bt + 1, 0, none⟩), .slice (some ⟨w.heap.size, 0, none⟩) 0 0, undef, u14, u15, u16, u17, u18, u19, u20, u21, u22, u23, u24, u25, u26, u27, u28, u29, u30, u31, u32, u33, u34, u35, u36, u37, u38, u39, u40, u41, u42, u43, u44, u45, u46, u47, u48, u49, u50, u51, u52, u53, u54, u55, u56, u57, u58, u59, u60, u61, u62, u63, u64, u65, u66, u67, u68, u69, u70, u71, u72, u73, u74, u75, u76, u77, u78, u79, u80, u81, u82, u83, u84, u85, u86, u87, u88, u89, u90, u91, u92, u93, u94, u95, u96, u97, u98, u99, u100, u101, u102, u103, u104, u105, u106, u107, u108, u109, u110, u111, u112, u113, u114, u115, u116, u117, u118, u119, u120, u121, u122, u123, u124, u125, u126, u127, u128, u129, u130, u131, u132, u133, u134, u135, u136, u137, u138, u139, u140, u141, u142, u143, u144, u145, u146, undef, undef, undef, undef, undef, undef, undef, undef, undef, undef, undef, undef, undef, undef, undef, undef, undef, undef, undef, undef, undef, undef, undef, undef, undef, undef, undef, undef, undef, undef, undef, undef, undef, undef, undef, undef, undef, undef, undef, undef, undef, undef, undef, undef, undef, undef, undef, undef, undef, undef, undef, undef, undef, undef, undef, undef, undef, undef, undef, undef, undef, undef, undef, undef, undef, undef, undef, undef, undef, undef, undef, undef, undef, undef, undef, undef, undef, undef, undef, undef, undef, undef, undef, undef, undef, undef, undef, undef, undef, undef, undef, undef, undef, undef, undef, undef, undef, undef, undef, undef, undef, undef, undef, undef, undef, undef, undef, undef, undef, undef, undef, undef, undef, undef, undef, undef, undef, undef, undef, undef, undef, undef, undef, undef, undef, undef, undef, undef, undef, undef, undef, undef, undef, undef, undef, undef, undef, undef, undef, undef, undef, undef, undef, undef, undef, undef, undef, undef, undef, undef, undef, undef, undef, undef, undef, undef, undef, undef, undef, undef, undef, undef, undef, undef, undef, undef, undef, undef, undef, undef, undef, undef, undef, undef, undef, undef, undef, undef, undef, undef, undef, undef, undef, undef, undef, undef, undef, undef, undef, undef, undef, undef, undef, undef, undef, undef, undef, undef, undef, undef, undef, undef, undef, undef, undef, undef, undef, undef, undef, undef, undef, undef, undef, undef, undef, undef, undef, undef, undef, undef, undef, undef, undef, undef, undef, undef, undef, undef, undef, undef, undef, undef, undef, undef, undef, undef, undef, undef, undef, undef, undef, undef, undef, undef, undef, undef, undef, undef, undef, undef, undef, undef, undef, undef, undef, undef, undef, undef, undef, undef, undef, undef, undef, undef, undef, undef, undef, undef, undef, undef, undef, undef, undef, undef, undef, undef, undef, undef, undef, undef, undef, undef, undef, undef, undef, undef, undef, undef, undef, undef, undef, undef, undef, undef, undef, undef, undef, undef, undef, undef, undef, undef, undef, undef, undef, undef, undef, undef, undef, undef, undef, undef, undef, undef, undef, undef, undef, undef, undef, undef, undef, undef, undef, undef, undef, undef, undef, undef, undef, undef, undef, undef, undef, undef, undef, undef, undef, undef, undef, undef, undef, undef, undef, undef, undef, undef, undef, undef, undef, undef, undef, undef, undef, undef, undef, undef, undef, undef, undef, undef, undef, undef, undef, undef, undef, undef, undef, undef, undef, undef, undef, undef, undef, undef, undef, undef], defers := [] } (w.alloc (.cells #[] 57)) := by
  have hX : Below w.heap.size w (w.alloc (.cells #[] 57)) := (Below.refl _ _).alloc (Nat.le_refl _) _
  have ci := (C.CI.on hX).g0.1
  have HR : Hid (∀ w', MSt B M w' (stepI p m f own (3, A, Bi)).1 → Below B w w' → R (.returned (.int .i64 (stepI p m f own (3, A, Bi)).2)) w') := hR
  clear hR
  have hA : 0 ≤ A ∧ A < 8 := by have := C.okI; unfold Tx.okI Tx.limA at this; simp at this; omega
  obtain ⟨a, rfl⟩ := Int.eq_ofNat_of_zero_le hA.1
  have ha : a < f.loc.length := by have := C.fok.l8; omega
  have hai : (a : Int) < (f.loc.length : Int) := by omega
  obtain ⟨gL, cL, rfl, hgL, ⟨hgG, hBL⟩, hloc⟩ := C.locs
  have hsi : stepI p m f own (3, (a : Int), Bi) = onS m { f with loc := f.loc.set a (topV f.stk) } 1 [] (f.pos + 1) := by
    simp only [stepI]
    rw [if_neg C.step]
    simp
  rw [hsi] at HR
  have hXd : Below w.heap.size w (w.alloc (.cells #[] 57)).drew := hX.drew
  have hXn : Below w0.heap.size w0 (w.alloc (.cells #[] 57)) := C.b0.trans (hX.mono C.b0.size)
  have hX0 : Below w0.heap.size w0 (w.alloc (.cells #[] 57)).drew := C.b0.trans (hXd.mono C.b0.size)
  have c4 : (w.alloc (.cells #[] 57)).drew.cell? ⟨G, q * 5 + 4, none⟩ = some (.slice (some ⟨gL, 0, none⟩) f.loc.length cL) := (C.TW.on hXd).cell (d := 4) (by omega)
  have c1 := (C.CI.on hXd).g1.1
  have t0 := (C.CT.on hXd).g0.1
  have t1 := (C.CT.on hXd).g1.1
  obtain ⟨x0, x1⟩ := (hloc _ hX0).1 a ha
  have z0 := (hloc _ hX0).2 (a * 2) (by omega)
  have z1 := (hloc _ hX0).2 (a * 2 + 1) (by omega)
  have HTY : Hid (Tp B M (setV (w.alloc (.cells #[] 57)) gL a (topV f.stk)).drew { m with frames := m.frames.set q { f with loc := f.loc.set a (topV f.stk) } } (q + 1) q { f with loc := f.loc.set a (topV f.stk) } G fcap vS (.slice (some ⟨gL, 0, none⟩) f.loc.length cL) vh vs ch cf Th Tf) := ((C.TW.on hX).setLoc (Nat.le_trans C.hB hXn.size) ha (topV f.stk)).on (Below.refl _ _).drew
  obtain ⟨y0, y1⟩ := (hloc _ hXn).1 a ha
  have v0 := (hloc _ hXn).2 (a * 2) (by omega)
  have v1 := (hloc _ hXn).2 (a * 2 + 1) (by omega)
  have hO : Only gL (w.alloc (.cells #[] 57)) (setV (w.alloc (.cells #[] 57)) gL a (topV f.stk)) := ((Only.refl _ _).set _ _).set _ _
  have IY : Hid (Cells (setV (w.alloc (.cells #[] 57)) gL a (topV f.stk)).drew bi [.int .i64 3, .int .i64 (a : Int), .int .i64 Bi]) := ((C.CI.on hX).onlyM hO (by have := C.li; omega)).on (Below.refl _ _).drew
  have TY : Hid (Cells (setV (w.alloc (.cells #[] 57)) gL a (topV f.stk)).drew bt [.int .i64 (topV f.stk).1, .int .i64 (topV f.stk).2]) := ((C.CT.on hX).onlyM hO (by have := C.lt; omega)).on (Below.refl _ _).drew
  have hBY : Below B w (setV (w.alloc (.cells #[] 57)) gL a (topV f.stk)).drew := (((hX.mono (Nat.le_trans C.hB C.b0.size)).setCell hBL _).setCell hBL _).drew
  have hsY : B ≤ (setV (w.alloc (.cells #[] 57)) gL a (topV f.stk)).drew.heap.size := Nat.le_trans (Nat.le_trans C.hB C.b0.size) hBY.size
  clear hloc hO
  unfold c8
  conv => arg 2; whnf
  go_upto_region 25 with fail
  apply meetM
  case h => intro hp; go_region_law fail; all_goals exact hp
  go_wp2_with fail
  have hset := withTop_same C.hq
  refine stepTail B M _ q _ G fcap vS _ vh vs ch cf Th Tf (setV (w.alloc (.cells #[] 57)) gL a (topV f.stk)).drew hsY HTY.out (by simpa using C.hq) 3 (a : Int) Bi bi bt (topV f.stk) IY.out TY.out (by have := C.glt; have := C.li; omega) (by have := C.glt; have := C.lt; omega) (takesS 3) C.nt C.fok.s8 w.heap.size 0 [] ⟨_, _, rfl, fun _ e => by simp at e, fun h => by simp at h⟩ (by simp) C.pos R ?_
  intro w' hM hb'
  refine HR.out w' ?_ (hBY.trans hb')
  have e : (onS { m with frames := m.frames.set q { f with loc := f.loc.set a (topV f.stk) } } { f with loc := f.loc.set a (topV f.stk) } (takesS 3) [] (if (3 : Int) = 11 ∨ (3 : Int) = 12 ∧ (topV f.stk).2 = 0 then (a : Int) else f.pos + 1)).1 = (onS m { f with loc := f.loc.set a (topV f.stk) } 1 [] (f.pos + 1)).1 := by
    unfold onS
    dsimp only
    rw [hset]
    rfl
  rw [← e]
  exact hM
end Pg
end Go.Proofs.Ytffkkhaiedhaiaa

/- How a machine begins: the program's fresh object, and Started. -/
namespace Go.Proofs.Ytffkkhaiedhaiaa
namespace Pg
open Go.ChangeShapes Go.WideShapes Go.ChangeAt Go.RowKit St

theorem vals_twice {w : World} {g k : Nat} {ms : List Vl} (hk : k < ms.length) (hroom : Room w g (ms.length * 2)) (h : ∀ j x, (ms.take k)[j]? = some x → VAt w g (0 + j * 2) x) (a b : Value) :
    ∀ j x, (ms.take (k + 1))[j]? = some x → VAt ((((w.setCell ⟨g, k * 2, none⟩ a).setCell ⟨g, k * 2 + 1, none⟩ b).setCell ⟨g, k * 2, none⟩ (.int .i64 ms[k].1)).setCell ⟨g, k * 2 + 1, none⟩ (.int .i64 ms[k].2)) g (0 + j * 2) x := by
  refine VAt.next hk ((hroom.set _ _).set _ _) fun j x hj => ?_
  have hjk : j < k := by have := (List.getElem?_eq_some_iff.1 hj).1; simp at this; omega
  exact ((h j x hj).far (by omega) _).far (by omega) _
end Pg
end Go.Proofs.Ytffkkhaiedhaiaa

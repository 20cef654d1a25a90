/- The step, op by op: 9, 11, 1, 13, 8, 10. -/
import Derived.Test.YtffkkhaiedhaiaaJMtC
namespace Go.Proofs.Ytffkkhaiedhaiaa
namespace Pg
open Go.ChangeShapes Go.WideShapes Go.ChangeAt Go.RowKit St Wd

variable {Bp : Nat} {p : Prg} {bp po cap B M : Nat} {m : Mc} {q : Nat} {f : Fr} {own : Meth} {op A Bi : Int} {b2 b6 bi bt G fcap : Nat} {vS vL vh vs vA : Value} {gc cc : Nat} {ch cf : List (List Value)} {Th Tf : Nat → Nat → Nat → Prop} {w0 w : World}
set_option maxRecDepth 100000 in
set_option maxHeartbeats 4000000 in
theorem stepOp9 (C : StepC Bp p bp po cap B M m q f own 9 A Bi b2 b6 bi bt G fcap vS vL vh vs vA gc cc ch cf Th Tf w0 w) (R : Ending → World → Prop)
    (hR : ∀ w', MSt B M w' (stepI p m f own (9, A, Bi)).1 → Below B w w' → R (.returned (.int .i64 (stepI p m f own (9, A, Bi)).2)) w') (K : Act → World → Prop) (hK : ∀ a w', Code.wp Try.prog (c8 [true, true, true, true, true, true, true, true, true, true, true, true, true, true, true]) (bodyPost Try.prog Try.f56 R) a w' → K a w')
    {u0 u3 u4 u14 u15 u16 u17 u18 u19 u20 u21 u22 u23 u24 u25 u26 u27 u28 u29 u30 u31 u32 u33 u34 u35 u36 u37 u38 u39 u40 u41 u42 u43 u44 u45 u46 u47 u48 u49 u50 u51 u52 u53 u54 u55 u56 u57 u58 u59 u60 u61 u62 u63 u64 u65 u66 u67 u68 u69 u70 u71 u72 u73 u74 u75 u76 u77 u78 u79 u80 u81 u82 u83 u84 u85 u86 u87 u88 u89 u90 u91 u92 u93 u94 u95 u96 u97 u98 u99 u100 u101 u102 u103 u104 u105 u106 u107 u108 u109 u110 u111 u112 u113 u114 u115 u116 u117 u118 u119 u120 u121 u122 u123 u124 u125 u126 u127 u128 u129 u130 u131 u132 u133 u134 u135 u136 u137 u138 u139 u140 u141 u142 u143 u144 u145 u146 : Value} : Code.wp Try.prog (c8 [true, true, true, true, true, true, true, true, true, true, true, true, true, true, false]) (Exit.then K (bodyPost Try.prog Try.f56 R)) { tmps := #[u0, .pointer (some ⟨M, 0, none⟩), .pointer (some ⟨b2, 0, none⟩), u3, u4, .pointer (some ⟨G, q * 5, none⟩), .pointer (some ⟨b6, 0, none⟩), .pointer (some ⟨bi, 0, none⟩), .int .i64 (f.stk.length : Int), .int .i64 (takesS 9 : Int), .pointer (some ⟨bt, 0, none⟩), .pointer (some ⟨bt + 1, 0, none⟩), .slice (some ⟨w.heap.size, 0, none⟩) 0 0, undef, u14, u15, u16, u17, u18, u19, u20, u21, u22, u23, u24, u25, u26, u27, u28, u29, u30, u31, u32, u33, u34, u35, u36, u37, u38, u39, u40, u41, u42, u43, u44, u45, u46, u47, u48, u49, u50, u51, u52, u53, u54, u55, u56, u57, u58, u59, u60, u61, u62, u63, u64, u65, u66, u67, u68, u69, u70, u71, u72, u73, u74, u75, u76, u77, u78, u79, u80, u81, u82, u83, u84, u85, u86, u87, u88, u89, u90, u91, u92, u93, u94, u95, u96, u97, u98, u99, u100, u101, u102, u103, u104, u105, u106, u107, u108, u109, u110, u111, u112, u113, u114, u115, u116, u117, u118, u119, u120, u121, u122, u123, u124, u125, u126, u127, u128, u129, u130, u131, u132, u133, u134, u135, u136, u137, u138, u139, u140, u141, u142, u143, u144, u145, u146, undef, undef, undef, undef, undef, undef, undef, undef, undef, undef, undef, undef, undef, undef, undef, undef, undef, undef, undef, undef, undef, undef, undef, undef, undef, undef, undef, undef, undef, undef, undef, undef, undef, undef, undef, undef, undef, undef, undef, undef, undef, undef, undef, undef, undef, undef, undef, undef, undef, undef, undef, undef, undef, undef, undef, undef, undef, undef, undef, undef, undef, undef, undef, undef, undef, undef, undef, undef, undef, undef, undef, undef, undef, undef, undef, undef, undef, undef, undef, undef, undef, undef, undef, undef, undef, undef, undef, undef, undef, undef, undef, undef, undef, undef, undef, undef, undef, undef, undef, undef, undef, undef, undef, undef, undef, undef, undef, undef, undef, undef, undef, undef, undef, undef, undef, undef, undef, undef, undef, undef, undef, undef, undef, undef, undef, undef, undef, undef, undef, undef, undef, undef, undef, undef, undef, undef, undef, undef, undef, undef, undef, undef, undef, undef, undef, undef, undef, undef, undef, undef, undef, undef, undef, undef, undef, undef, undef, undef, undef, undef, undef, undef, undef, undef, undef, undef, undef, undef, undef, undef, undef, undef, undef, undef, undef, undef, undef, undef, undef, undef, undef, undef, undef, undef, undef, undef, undef, undef, undef, undef, undef, undef, undef, undef, undef, undef, undef, undef, undef, undef, undef, undef, undef, undef, undef, undef, undef, undef, undef, undef, undef, undef, undef, undef, undef, undef, undef, undef, undef, undef, undef, undef, undef, undef, undef, undef, undef, undef, undef, undef, undef, undef, undef, undef, undef, undef, undef, undef, undef, undef, undef, undef, undef, undef, undef, undef, undef, undef, undef, undef, undef, undef, undef, undef, undef, undef, undef, undef, undef, undef, undef, undef, undef, undef, undef, undef, undef, undef, undef, undef, undef, undef, undef, undef, undef, undef, undef, undef, undef, undef, undef, undef, undef, undef, undef, undef, undef, undef, undef, undef, undef, undef, undef, undef, undef, undef, undef, undef, undef, undef, undef, undef, undef, undef, undef, undef, undef, undef, undef, undef, undef, undef, undef, undef, undef, undef, undef, undef, undef, undef, undef, undef, undef, undef, undef, undef, undef, undef, undef, undef, undef, undef, undef, undef, undef, undef, undef, undef, undef, undef, undef, undef, undef, undef, undef, undef, undef, undef, undef, undef, undef, undef, undef, undef, undef, undef, undef, undef, undef, undef, undef, undef, undef, undef, undef, undef, undef, undef, undef, undef, undef, undef, undef, undef, undef, undef], defers := [] } (w.alloc (.cells #[] 57)) := by
  have hX : Below w.heap.size w (w.alloc (.cells #[] 57)) := (Below.refl _ _).alloc (Nat.le_refl _) _
  have ci := (C.CI.on hX).g0.1
  have HR : Hid (∀ w', MSt B M w' (stepI p m f own (9, A, Bi)).1 → Below B w w' → R (.returned (.int .i64 (stepI p m f own (9, A, Bi)).2)) w') := hR
  clear hR
  have hsi : stepI p m f own (9, A, Bi) = onS m f 1 [] (f.pos + 1) := by
    simp only [stepI]
    rw [if_neg C.step]
    simp
  rw [hsi] at HR
  unfold c8
  conv => arg 2; whnf
  go_wp2_with fail
  have hN := growV_nil w
  refine C.tail hX hN.vz.sv (by simp) R ?_
  intro w' hM hb'
  exact HR.out w' (by simpa [takesS] using hM) hb'
set_option maxRecDepth 100000 in
set_option maxHeartbeats 4000000 in
theorem stepOp11 (C : StepC Bp p bp po cap B M m q f own 11 A Bi b2 b6 bi bt G fcap vS vL vh vs vA gc cc ch cf Th Tf w0 w) (R : Ending → World → Prop)
    (hR : ∀ w', MSt B M w' (stepI p m f own (11, A, Bi)).1 → Below B w w' → R (.returned (.int .i64 (stepI p m f own (11, A, Bi)).2)) w') (K : Act → World → Prop) (hK : ∀ a w', Code.wp Try.prog (c8 [true, true, true, true, true, true, true, true, true, true, true, true, true, true, true]) (bodyPost Try.prog Try.f56 R) a w' → K a w')
    {u0 u3 u4 u14 u15 u16 u17 u18 u19 u20 u21 u22 u23 u24 u25 u26 u27 u28 u29 u30 u31 u32 u33 u34 u35 u36 u37 u38 u39 u40 u41 u42 u43 u44 u45 u46 u47 u48 u49 u50 u51 u52 u53 u54 u55 u56 u57 u58 u59 u60 u61 u62 u63 u64 u65 u66 u67 u68 u69 u70 u71 u72 u73 u74 u75 u76 u77 u78 u79 u80 u81 u82 u83 u84 u85 u86 u87 u88 u89 u90 u91 u92 u93 u94 u95 u96 u97 u98 u99 u100 u101 u102 u103 u104 u105 u106 u107 u108 u109 u110 u111 u112 u113 u114 u115 u116 u117 u118 u119 u120 u121 u122 u123 u124 u125 u126 u127 u128 u129 u130 u131 u132 u133 u134 u135 u136 u137 u138 u139 u140 u141 u142 u143 u144 u145 u146 : Value} : Code.wp Try.prog (c8 [true, true, true, true, true, true, true, true, true, true, true, true, true, true, false]) (Exit.then K (bodyPost Try.prog Try.f56 R)) { tmps := #[u0, .pointer (some ⟨M, 0, none⟩), .pointer (some ⟨b2, 0, none⟩), u3, u4, .pointer (some ⟨G, q * 5, none⟩), .pointer (some ⟨b6, 0, none⟩), .pointer (some ⟨bi, 0, none⟩), .int .i64 (f.stk.length : Int), .int .i64 (takesS 11 : Int), .pointer (some ⟨bt, 0, none⟩), .pointer (some ⟨bt + 1, 0, none⟩), .slice (some ⟨w.heap.size, 0, none⟩) 0 0, undef, u14, u15, u16, u17, u18, u19, u20, u21, u22, u23, u24, u25, u26, u27, u28, u29, u30, u31, u32, u33, u34, u35, u36, u37, u38, u39, u40, u41, u42, u43, u44, u45, u46, u47, u48, u49, u50, u51, u52, u53, u54, u55, u56, u57, u58, u59, u60, u61, u62, u63, u64, u65, u66, u67, u68, u69, u70, u71, u72, u73, u74, u75, u76, u77, u78, u79, u80, u81, u82, u83, u84, u85, u86, u87, u88, u89, u90, u91, u92, u93, u94, u95, u96, u97, u98, u99, u100, u101, u102, u103, u104, u105, u106, u107, u108, u109, u110, u111, u112, u113, u114, u115, u116, u117, u118, u119, u120, u121, u122, u123, u124, u125, u126, u127, u128, u129, u130, u131, u132, u133, u134, u135, u136, u137, u138, u139, u140, u141, u142, u143, u144, u145, u146, undef, undef, undef, undef, undef, undef, undef, undef, undef, undef, undef, undef, undef, undef, undef, undef, undef, undef, undef, undef, undef, undef, undef, undef, undef, undef, undef, undef, undef, undef, undef, undef, undef, undef, undef, undef, undef, undef, undef, undef, undef, undef, undef, undef, undef, undef, undef, undef, undef, undef, undef, undef, undef, undef, undef, undef, undef, undef, undef, undef, undef, undef, undef, undef, undef, undef, undef, undef, undef, undef, undef, undef, undef, undef, undef, undef, undef, undef, undef, undef, undef, undef, undef, undef, undef, undef, undef, undef, undef, undef, undef, undef, undef, undef, undef, undef, undef, undef, undef, undef, undef, undef, undef, undef, undef, undef, undef, undef, undef, undef, undef, undef, undef, undef, undef, undef, undef, undef, undef, undef, undef, undef, undef, undef, undef, undef, undef, undef, undef, undef, undef, undef, undef, undef, undef, undef, undef, undef, undef, undef, undef, undef, undef, undef, undef, undef, undef, undef, undef, undef, undef, undef, undef, undef, undef, undef, undef, undef, undef, undef, undef, undef, undef, undef, undef, undef, undef, undef, undef, undef, undef, undef, undef, undef, undef, undef, undef, undef, undef, undef, undef, undef, undef, undef, undef, undef, undef, undef, undef, undef, undef, undef, undef, undef, undef, undef, undef, undef, undef, undef, undef, undef, undef, undef, undef, undef, undef, undef, undef, undef, undef, undef, undef, undef, undef, undef, undef, undef, undef, undef, undef, undef, undef, undef, undef, undef, undef, undef, undef, undef, undef, undef, undef, undef, undef, undef, undef, undef, undef, undef, undef, undef, undef, undef, undef, undef, undef, undef, undef, undef, undef, undef, undef, undef, undef, undef, undef, undef, undef, undef, undef, undef, undef, undef, undef, undef, undef, undef, undef, undef, undef, undef, undef, undef, undef, undef, undef, undef, undef, undef, undef, undef, undef, undef, undef, undef, undef, undef, undef, undef, undef, undef, undef, undef, undef, undef, undef, undef, undef, undef, undef, undef, undef, undef, undef, undef, undef, undef, undef, undef, undef, undef, undef, undef, undef, undef, undef, undef, undef, undef, undef, undef, undef, undef, undef, undef, undef, undef, undef, undef, undef, undef, undef, undef, undef, undef, undef, undef, undef, undef, undef, undef, undef, undef, undef, undef, undef, undef, undef, undef, undef, undef, undef, undef, undef, undef, undef, undef, undef, undef, undef, undef, undef, undef, undef, undef, undef, undef, undef, undef, undef, undef, undef, undef, undef, undef], defers := [] } (w.alloc (.cells #[] 57)) := by
  have hX : Below w.heap.size w (w.alloc (.cells #[] 57)) := (Below.refl _ _).alloc (Nat.le_refl _) _
  have ci := (C.CI.on hX).g0.1
  have HR : Hid (∀ w', MSt B M w' (stepI p m f own (11, A, Bi)).1 → Below B w w' → R (.returned (.int .i64 (stepI p m f own (11, A, Bi)).2)) w') := hR
  clear hR
  have hsi : stepI p m f own (11, A, Bi) = onS m f 0 [] A := by
    simp only [stepI]
    rw [if_neg C.step]
    simp
  rw [hsi] at HR
  unfold c8
  conv => arg 2; whnf
  go_wp2_with fail
  have hN := growV_nil w
  refine C.tail hX hN.vz.sv (by simp) R ?_
  intro w' hM hb'
  exact HR.out w' (by simpa [takesS] using hM) hb'
set_option maxRecDepth 100000 in
set_option maxHeartbeats 4000000 in
theorem stepOp1 (C : StepC Bp p bp po cap B M m q f own 1 A Bi b2 b6 bi bt G fcap vS vL vh vs vA gc cc ch cf Th Tf w0 w) (R : Ending → World → Prop)
    (hR : ∀ w', MSt B M w' (stepI p m f own (1, A, Bi)).1 → Below B w w' → R (.returned (.int .i64 (stepI p m f own (1, A, Bi)).2)) w') (K : Act → World → Prop) (hK : ∀ a w', Code.wp Try.prog (c8 [true, true, true, true, true, true, true, true, true, true, true, true, true, true, true]) (bodyPost Try.prog Try.f56 R) a w' → K a w')
    {u0 u3 u4 u14 u15 u16 u17 u18 u19 u20 u21 u22 u23 u24 u25 u26 u27 u28 u29 u30 u31 u32 u33 u34 u35 u36 u37 u38 u39 u40 u41 u42 u43 u44 u45 u46 u47 u48 u49 u50 u51 u52 u53 u54 u55 u56 u57 u58 u59 u60 u61 u62 u63 u64 u65 u66 u67 u68 u69 u70 u71 u72 u73 u74 u75 u76 u77 u78 u79 u80 u81 u82 u83 u84 u85 u86 u87 u88 u89 u90 u91 u92 u93 u94 u95 u96 u97 u98 u99 u100 u101 u102 u103 u104 u105 u106 u107 u108 u109 u110 u111 u112 u113 u114 u115 u116 u117 u118 u119 u120 u121 u122 u123 u124 u125 u126 u127 u128 u129 u130 u131 u132 u133 u134 u135 u136 u137 u138 u139 u140 u141 u142 u143 u144 u145 u146 : Value} : Code.wp Try.prog (c8 [true, true, true, true, true, true, true, true, true, true, true, true, true, true, false]) (Exit.then K (bodyPost Try.prog Try.f56 R)) { tmps := #[u0, .pointer (some ⟨M, 0, none⟩), .pointer (some ⟨b2, 0, none⟩), u3, u4, .pointer (some ⟨G, q * 5, none⟩), .pointer (some ⟨b6, 0, none⟩), .pointer (some ⟨bi, 0, none⟩), .int .i64 (f.stk.length : Int), .int .i64 (takesS 1 : Int), .pointer (some ⟨bt, 0, none⟩), .pointer (some ⟨bt + 1, 0, none⟩), .slice (some ⟨w.heap.size, 0, none⟩) 0 0, undef, u14, u15, u16, u17, u18, u19, u20, u21, u22, u23, u24, u25, u26, u27, u28, u29, u30, u31, u32, u33, u34, u35, u36, u37, u38, u39, u40, u41, u42, u43, u44, u45, u46, u47, u48, u49, u50, u51, u52, u53, u54, u55, u56, u57, u58, u59, u60, u61, u62, u63, u64, u65, u66, u67, u68, u69, u70, u71, u72, u73, u74, u75, u76, u77, u78, u79, u80, u81, u82, u83, u84, u85, u86, u87, u88, u89, u90, u91, u92, u93, u94, u95, u96, u97, u98, u99, u100, u101, u102, u103, u104, u105, u106, u107, u108, u109, u110, u111, u112, u113, u114, u115, u116, u117, u118, u119, u120, u121, u122, u123, u124, u125, u126, u127, u128, u129, u130, u131, u132, u133, u134, u135, u136, u137, u138, u139, u140, u141, u142, u143, u144, u145, u146, undef, undef, undef, undef, undef, undef, undef, undef, undef, undef, undef, undef, undef, undef, undef, undef, undef, undef, undef, undef, undef, undef, undef, undef, undef, undef, undef, undef, undef, undef, undef, undef, undef, undef, undef, undef, undef, undef, undef, undef, undef, undef, undef, undef, undef, undef, undef, undef, undef, undef, undef, undef, undef, undef, undef, undef, undef, undef, undef, undef, undef, undef, undef, undef, undef, undef, undef, undef, undef, undef, undef, undef, undef, undef, undef, undef, undef, undef, undef, undef, undef, undef, undef, undef, undef, undef, undef, undef, undef, undef, undef, undef, undef, undef, undef, undef, undef, undef, undef, undef, undef, undef, undef, undef, undef, undef, undef, undef, undef, undef, undef, undef, undef, undef, undef, undef, undef, undef, undef, undef, undef, undef, undef, undef, undef, undef, undef, undef, undef, undef, undef, undef, undef, undef, undef, undef, undef, undef, undef, undef, undef, undef, undef, undef, undef, undef, undef, undef, undef, undef, undef, undef, undef, undef, undef, undef, undef, undef, undef, undef, undef, undef, undef, undef, undef, undef, undef, undef, undef, undef, undef, undef, undef, undef, undef, undef, undef, undef, undef, undef, undef, undef, undef, undef, undef, undef, undef, undef, undef, undef, undef, undef, undef, undef, undef, undef, undef, undef, undef, undef, undef, undef, undef, undef, undef, undef, undef, undef, undef, undef, undef, undef, undef, undef, undef, undef, undef, undef, undef, undef, undef, undef, undef, undef, undef, undef, undef, undef, undef, undef, undef, undef, undef, undef, undef, undef, undef, undef, undef, undef, undef, undef, undef, undef, undef, undef, undef, undef, undef, undef, undef, undef, undef, undef, undef, undef, undef, undef, undef, undef, undef, undef, undef, undef, undef, undef, undef, undef, undef, undef, undef, undef, undef, undef, undef, undef, undef, undef, undef, undef, undef, undef, undef, undef, undef, undef, undef, undef, undef, undef, undef, undef, undef, undef, undef, undef, undef, undef, undef, undef, undef, undef, undef, undef, undef, undef, undef, undef, undef, undef, undef, undef, undef, undef, undef, undef, undef, undef, undef, undef, undef, undef, undef, undef, undef, undef, undef, undef, undef, undef, undef, undef, undef, undef, undef, undef, undef, undef, undef, undef, undef, undef, undef, undef, undef, undef, undef, undef, undef, undef, undef, undef, undef, undef, undef, undef, undef, undef, undef, undef, undef, undef, undef, undef, undef, undef, undef, undef, undef, undef, undef, undef, undef, undef, undef, undef], defers := [] } (w.alloc (.cells #[] 57)) := by
  have hX : Below w.heap.size w (w.alloc (.cells #[] 57)) := (Below.refl _ _).alloc (Nat.le_refl _) _
  have ci := (C.CI.on hX).g0.1
  have ci1 := (C.CI.on hX).g1.1
  have HR : Hid (∀ w', MSt B M w' (stepI p m f own (1, A, Bi)).1 → Below B w w' → R (.returned (.int .i64 (stepI p m f own (1, A, Bi)).2)) w') := hR
  clear hR
  have hsi : stepI p m f own (1, A, Bi) = onS m f 0 [(1, A)] (f.pos + 1) := by
    simp only [stepI]
    rw [if_neg C.step]
    simp
  rw [hsi] at HR
  have HW := hX
  have HV : Below (w.alloc (.cells #[] 57)).heap.size (w.alloc (.cells #[] 57)) ((w.alloc (.cells #[] 57)).alloc (.cells #[.int .i64 1, .int .i64 A] 57)) := (Below.refl _ _).alloc (Nat.le_refl _) _
  have hB2 : Below w.heap.size w ((w.alloc (.cells #[] 57)).alloc (.cells #[.int .i64 1, .int .i64 A] 57)) := HW.alloc HW.size _
  have HN2 : Hid (GrowV w.heap.size ((w.alloc (.cells #[] 57)).alloc (.cells #[.int .i64 1, .int .i64 A] 57)) (.slice (some ⟨w.heap.size, 0, none⟩) ([] : List Vl).length 0) []) := (growV_nil w).on HV
  have HSV : Hid (SV true 0 ((w.alloc (.cells #[] 57)).alloc (.cells #[.int .i64 1, .int .i64 A] 57)) (.slice (some ⟨(w.alloc (.cells #[] 57)).heap.size, 0, none⟩) ([(1, A)]).length 1) ([(1, A)])) := sv_one (Cells.new (w.alloc (.cells #[] 57)) _ rfl _ _)
  have HN3 := HN2
  clear HV HW
  unfold c8
  conv => arg 2; whnf
  go_wp2_with (at_builtin; refine wpList_growV _ rfl (.tmp 151) (.tmp 155) rfl w.heap.size w.heap.size 0 [] (by simp [Act.eval]) HN2.out (by simp; omega) (some ⟨w.heap.size + 1, 0, none⟩) 1 0 [(1, A)] (by simp [Act.eval]) (by have := HSV.out; rw [World.size_alloc] at this; exact this) (by simp) ?_)
  intro g1 c1 w1 G1 B1 E1 O1
  have hX1 : Below w.heap.size w w1 := hB2.trans B1
  have HG1 : Hid (GrowV w.heap.size w1 (.slice (some ⟨g1, 0, none⟩) ([(1, A)] : List Vl).length c1) [(1, A)]) := by show GrowV _ _ _ _; simpa using G1
  clear G1 B1 E1 O1 HN2 HSV hB2
  go_wp2_with fail
  refine C.tail hX1 HG1.out.vz.sv (by simp) R ?_
  intro w' hM hb'
  exact HR.out w' (by simpa [takesS] using hM) hb'
set_option maxRecDepth 100000 in
set_option maxHeartbeats 4000000 in
theorem stepOp13 (C : StepC Bp p bp po cap B M m q f own 13 A Bi b2 b6 bi bt G fcap vS vL vh vs vA gc cc ch cf Th Tf w0 w) (R : Ending → World → Prop)
    (hR : ∀ w', MSt B M w' (stepI p m f own (13, A, Bi)).1 → Below B w w' → R (.returned (.int .i64 (stepI p m f own (13, A, Bi)).2)) w') (K : Act → World → Prop) (hK : ∀ a w', Code.wp Try.prog (c8 [true, true, true, true, true, true, true, true, true, true, true, true, true, true, true]) (bodyPost Try.prog Try.f56 R) a w' → K a w')
    {u0 u3 u4 u14 u15 u16 u17 u18 u19 u20 u21 u22 u23 u24 u25 u26 u27 u28 u29 u30 u31 u32 u33 u34 u35 u36 u37 u38 u39 u40 u41 u42 u43 u44 u45 u46 u47 u48 u49 u50 u51 u52 u53 u54 u55 u56 u57 u58 u59 u60 u61 u62 u63 u64 u65 u66 u67 u68 u69 u70 u71 u72 u73 u74 u75 u76 u77 u78 u79 u80 u81 u82 u83 u84 u85 u86 u87 u88 u89 u90 u91 u92 u93 u94 u95 u96 u97 u98 u99 u100 u101 u102 u103 u104 u105 u106 u107 u108 u109 u110 u111 u112 u113 u114 u115 u116 u117 u118 u119 u120 u121 u122 u123 u124 u125 u126 u127 u128 u129 u130 u131 u132 u133 u134 u135 u136 u137 u138 u139 u140 u141 u142 u143 u144 u145 u146 : Value} : Code.wp Try.prog (c8 [true, true, true, true, true, true, true, true, true, true, true, true, true, true, false]) (Exit.then K (bodyPost Try.prog Try.f56 R)) { tmps := #[u0, .pointer (some ⟨M, 0, none⟩), .pointer (some ⟨b2, 0, none⟩), u3, u4, .pointer (some ⟨G, q * 5, none⟩), .pointer (some ⟨b6, 0, none⟩), .pointer (some ⟨bi, 0, none⟩), .int .i64 (f.stk.length : Int), .int .i64 (takesS 13 : Int), .pointer (some ⟨bt, 0, none⟩), .pointer (some ⟨bt + 1, 0, none⟩), .slice (some ⟨w.heap.size, 0, none⟩) 0 0, undef, u14, u15, u16, u17, u18, u19, u20, u21, u22, u23, u24, u25, u26, u27, u28, u29, u30, u31, u32, u33, u34, u35, u36, u37, u38, u39, u40, u41, u42, u43, u44, u45, u46, u47, u48, u49, u50, u51, u52, u53, u54, u55, u56, u57, u58, u59, u60, u61, u62, u63, u64, u65, u66, u67, u68, u69, u70, u71, u72, u73, u74, u75, u76, u77, u78, u79, u80, u81, u82, u83, u84, u85, u86, u87, u88, u89, u90, u91, u92, u93, u94, u95, u96, u97, u98, u99, u100, u101, u102, u103, u104, u105, u106, u107, u108, u109, u110, u111, u112, u113, u114, u115, u116, u117, u118, u119, u120, u121, u122, u123, u124, u125, u126, u127, u128, u129, u130, u131, u132, u133, u134, u135, u136, u137, u138, u139, u140, u141, u142, u143, u144, u145, u146, undef, undef, undef, undef, undef, undef, undef, undef, undef, undef, undef, undef, undef, undef, undef, undef, undef, undef, undef, undef, undef, undef, undef, undef, undef, undef, undef, undef, undef, undef, undef, undef, undef, undef, undef, undef, undef, undef, undef, undef, undef, undef, undef, undef, undef, undef, undef, undef, undef, undef, undef, undef, undef, undef, undef, undef, undef, undef, undef, undef, undef, undef, undef, undef, undef, undef, undef, undef, undef, undef, undef, undef, undef, undef, undef, undef, undef, undef, undef, undef, undef, undef, undef, undef, undef, undef, undef, undef, undef, undef, undef, undef, undef, undef, undef, undef, undef, undef, undef, undef, undef, undef, undef, undef, undef, undef, undef, undef, undef, undef, undef, undef, undef, undef, undef, undef, undef, undef, undef, undef, undef, undef, undef, undef, undef, undef, undef, undef, undef, undef, undef, undef, undef, undef, undef, undef, undef, undef, undef, undef, undef, undef, undef, undef, undef, undef, undef, undef, undef, undef, undef, undef, undef, undef, undef, undef, undef, undef, undef, undef, undef, undef, undef, undef, undef, undef, undef, undef, undef, undef, undef, undef, undef, undef, undef, undef, undef, undef, undef, undef, undef, undef, undef, undef, undef, undef, undef, undef, undef, undef, undef, undef, undef, undef, undef, undef, undef, undef, undef, undef, undef, undef, undef, undef, undef, undef, undef, undef, undef, undef, undef, undef, undef, undef, undef, undef, undef, undef, undef, undef, undef, undef, undef, undef, undef, undef, undef, undef, undef, undef, undef, undef, undef, undef, undef, undef, undef, undef, undef, undef, undef, undef, undef, undef, undef, undef, undef, undef, undef, undef, undef, undef, undef, undef, undef, undef, undef, undef, undef, undef, undef, undef, undef, undef, undef, undef, undef, undef, undef, undef, undef, undef, undef, undef, undef, undef, undef, undef, undef, undef, undef, undef, undef, undef, undef, undef, undef, undef, undef, undef, undef, undef, undef, undef, undef, undef, undef, undef, undef, undef, undef, undef, undef, undef, undef, undef, undef, undef, undef, undef, undef, undef, undef, undef, undef, undef, undef, undef, undef, undef, undef, undef, undef, undef, undef, undef, undef, undef, undef, undef, undef, undef, undef, undef, undef, undef, undef, undef, undef, undef, undef, undef, undef, undef, undef, undef, undef, undef, undef, undef, undef, undef, undef, undef, undef, undef, undef, undef, undef, undef, undef, undef, undef, undef, undef, undef, undef, undef, undef, undef, undef, undef, undef, undef, undef, undef], defers := [] } (w.alloc (.cells #[] 57)) := by
  have hX : Below w.heap.size w (w.alloc (.cells #[] 57)) := (Below.refl _ _).alloc (Nat.le_refl _) _
  have ci := (C.CI.on hX).g0.1
  have HR : Hid (∀ w', MSt B M w' (stepI p m f own (13, A, Bi)).1 → Below B w w' → R (.returned (.int .i64 (stepI p m f own (13, A, Bi)).2)) w') := hR
  clear hR
  have hsi : stepI p m f own (13, A, Bi) = onS m f 0 [(3, 0)] (f.pos + 1) := by
    simp only [stepI]
    rw [if_neg C.step]
    simp
  rw [hsi] at HR
  have HW := hX
  have HV : Below (w.alloc (.cells #[] 57)).heap.size (w.alloc (.cells #[] 57)) ((w.alloc (.cells #[] 57)).alloc (.cells #[.int .i64 3, .int .i64 0] 57)) := (Below.refl _ _).alloc (Nat.le_refl _) _
  have hB2 : Below w.heap.size w ((w.alloc (.cells #[] 57)).alloc (.cells #[.int .i64 3, .int .i64 0] 57)) := HW.alloc HW.size _
  have HN2 : Hid (GrowV w.heap.size ((w.alloc (.cells #[] 57)).alloc (.cells #[.int .i64 3, .int .i64 0] 57)) (.slice (some ⟨w.heap.size, 0, none⟩) ([] : List Vl).length 0) []) := (growV_nil w).on HV
  have HSV : Hid (SV true 0 ((w.alloc (.cells #[] 57)).alloc (.cells #[.int .i64 3, .int .i64 0] 57)) (.slice (some ⟨(w.alloc (.cells #[] 57)).heap.size, 0, none⟩) ([(3, 0)]).length 1) ([(3, 0)])) := sv_one (Cells.new (w.alloc (.cells #[] 57)) _ rfl _ _)
  have HN3 := HN2
  clear HV HW
  unfold c8
  conv => arg 2; whnf
  go_wp2_with (at_builtin; refine wpList_growV _ rfl (.tmp 254) (.tmp 256) rfl w.heap.size w.heap.size 0 [] (by simp [Act.eval]) HN2.out (by simp; omega) (some ⟨w.heap.size + 1, 0, none⟩) 1 0 [(3, 0)] (by simp [Act.eval]) (by have := HSV.out; rw [World.size_alloc] at this; exact this) (by simp) ?_)
  intro g1 c1 w1 G1 B1 E1 O1
  have hX1 : Below w.heap.size w w1 := hB2.trans B1
  have HG1 : Hid (GrowV w.heap.size w1 (.slice (some ⟨g1, 0, none⟩) ([(3, 0)] : List Vl).length c1) [(3, 0)]) := by show GrowV _ _ _ _; simpa using G1
  clear G1 B1 E1 O1 HN2 HSV hB2
  go_wp2_with fail
  refine C.tail hX1 HG1.out.vz.sv (by simp) R ?_
  intro w' hM hb'
  exact HR.out w' (by simpa [takesS] using hM) hb'
set_option maxRecDepth 100000 in
set_option maxHeartbeats 4000000 in
theorem stepOp8 (C : StepC Bp p bp po cap B M m q f own 8 A Bi b2 b6 bi bt G fcap vS vL vh vs vA gc cc ch cf Th Tf w0 w) (R : Ending → World → Prop)
    (hR : ∀ w', MSt B M w' (stepI p m f own (8, A, Bi)).1 → Below B w w' → R (.returned (.int .i64 (stepI p m f own (8, A, Bi)).2)) w') (K : Act → World → Prop) (hK : ∀ a w', Code.wp Try.prog (c8 [true, true, true, true, true, true, true, true, true, true, true, true, true, true, true]) (bodyPost Try.prog Try.f56 R) a w' → K a w')
    {u0 u3 u4 u14 u15 u16 u17 u18 u19 u20 u21 u22 u23 u24 u25 u26 u27 u28 u29 u30 u31 u32 u33 u34 u35 u36 u37 u38 u39 u40 u41 u42 u43 u44 u45 u46 u47 u48 u49 u50 u51 u52 u53 u54 u55 u56 u57 u58 u59 u60 u61 u62 u63 u64 u65 u66 u67 u68 u69 u70 u71 u72 u73 u74 u75 u76 u77 u78 u79 u80 u81 u82 u83 u84 u85 u86 u87 u88 u89 u90 u91 u92 u93 u94 u95 u96 u97 u98 u99 u100 u101 u102 u103 u104 u105 u106 u107 u108 u109 u110 u111 u112 u113 u114 u115 u116 u117 u118 u119 u120 u121 u122 u123 u124 u125 u126 u127 u128 u129 u130 u131 u132 u133 u134 u135 u136 u137 u138 u139 u140 u141 u142 u143 u144 u145 u146 : Value} : Code.wp Try.prog (c8 [true, true, true, true, true, true, true, true, true, true, true, true, true, true, false]) (Exit.then K (bodyPost Try.prog Try.f56 R)) { tmps := #[u0, .pointer (some ⟨M, 0, none⟩), .pointer (some ⟨b2, 0, none⟩), u3, u4, .pointer (some ⟨G, q * 5, none⟩), .pointer (some ⟨b6, 0, none⟩), .pointer (some ⟨bi, 0, none⟩), .int .i64 (f.stk.length : Int), .int .i64 (takesS 8 : Int), .pointer (some ⟨bt, 0, none⟩), .pointer (some ⟨bt + 1, 0, none⟩), .slice (some ⟨w.heap.size, 0, none⟩) 0 0, undef, u14, u15, u16, u17, u18, u19, u20, u21, u22, u23, u24, u25, u26, u27, u28, u29, u30, u31, u32, u33, u34, u35, u36, u37, u38, u39, u40, u41, u42, u43, u44, u45, u46, u47, u48, u49, u50, u51, u52, u53, u54, u55, u56, u57, u58, u59, u60, u61, u62, u63, u64, u65, u66, u67, u68, u69, u70, u71, u72, u73, u74, u75, u76, u77, u78, u79, u80, u81, u82, u83, u84, u85, u86, u87, u88, u89, u90, u91, u92, u93, u94, u95, u96, u97, u98, u99, u100, u101, u102, u103, u104, u105, u106, u107, u108, u109, u110, u111, u112, u113, u114, u115, u116, u117, u118, u119, u120, u121, u122, u123, u124, u125, u126, u127, u128, u129, u130, u131, u132, u133, u134, u135, u136, u137, u138, u139, u140, u141, u142, u143, u144, u145, u146, undef, undef, undef, undef, undef, undef, undef, undef, undef, undef, undef, undef, undef, undef, undef, undef, undef, undef, undef, undef, undef, undef, undef, undef, undef, undef, undef, undef, undef, undef, undef, undef, undef, undef, undef, undef, undef, undef, undef, undef, undef, undef, undef, undef, undef, undef, undef, undef, undef, undef, undef, undef, undef, undef, undef, undef, undef, undef, undef, undef, undef, undef, undef, undef, undef, undef, undef, undef, undef, undef, undef, undef, undef, undef, undef, undef, undef, undef, undef, undef, undef, undef, undef, undef, undef, undef, undef, undef, undef, undef, undef, undef, undef, undef, undef, undef, undef, undef, undef, undef, undef, undef, undef, undef, undef, undef, undef, undef, undef, undef, undef, undef, undef, undef, undef, undef, undef, undef, undef, undef, undef, undef, undef, undef, undef, undef, undef, undef, undef, undef, undef, undef, undef, undef, undef, undef, undef, undef, undef, undef, undef, undef, undef, undef, undef, undef, undef, undef, undef, undef, undef, undef, undef, undef, undef, undef, undef, undef, undef, undef, undef, undef, undef, undef, undef, undef, undef, undef, undef, undef, undef, undef, undef, undef, undef, undef, undef, undef, undef, undef, undef, undef, undef, undef, undef, undef, undef, undef, undef, undef, undef, undef, undef, undef, undef, undef, undef, undef, undef, undef, undef, undef, undef, undef, undef, undef, undef, undef, undef, undef, undef, undef, undef, undef, undef, undef, undef, undef, undef, undef, undef, undef, undef, undef, undef, undef, undef, undef, undef, undef, undef, undef, undef, undef, undef, undef, undef, undef, undef, undef, undef, undef, undef, undef, undef, undef, undef, undef, undef, undef, undef, undef, undef, undef, undef, undef, undef, undef, undef, undef, undef, undef, undef, undef, undef, undef, undef, undef, undef, undef, undef, undef, undef, undef, undef, undef, undef, undef, undef, undef, undef, undef, undef, undef, undef, undef, undef, undef, undef, undef, undef, undef, undef, undef, undef, undef, undef, undef, undef, undef, undef, undef, undef, undef, undef, undef, undef, undef, undef, undef, undef, undef, undef, undef, undef, undef, undef, undef, undef, undef, undef, undef, undef, undef, undef, undef, undef, undef, undef, undef, undef, undef, undef, undef, undef, undef, undef, undef, undef, undef, undef, undef, undef, undef, undef, undef, undef, undef, undef, undef, undef, undef, undef, undef, undef, undef, undef, undef, undef, undef, undef, undef, undef, undef, undef, undef, undef, undef, undef, undef, undef, undef, undef, undef, undef, undef], defers := [] } (w.alloc (.cells #[] 57)) := by
  have hX : Below w.heap.size w (w.alloc (.cells #[] 57)) := (Below.refl _ _).alloc (Nat.le_refl _) _
  have ci := (C.CI.on hX).g0.1
  have ct0 := (C.CT.on hX).g0.1
  have ct1 := (C.CT.on hX).g1.1
  have HR : Hid (∀ w', MSt B M w' (stepI p m f own (8, A, Bi)).1 → Below B w w' → R (.returned (.int .i64 (stepI p m f own (8, A, Bi)).2)) w') := hR
  clear hR
  have hsi : stepI p m f own (8, A, Bi) = onS m f 1 [topV f.stk, topV f.stk] (f.pos + 1) := by
    simp only [stepI]
    rw [if_neg C.step]
    simp
  rw [hsi] at HR
  have HW := hX
  have HV : Below (w.alloc (.cells #[] 57)).heap.size (w.alloc (.cells #[] 57)) ((w.alloc (.cells #[] 57)).alloc (.cells #[.int .i64 (topV f.stk).1, .int .i64 (topV f.stk).2, .int .i64 (topV f.stk).1, .int .i64 (topV f.stk).2] 57)) := (Below.refl _ _).alloc (Nat.le_refl _) _
  have hB2 : Below w.heap.size w ((w.alloc (.cells #[] 57)).alloc (.cells #[.int .i64 (topV f.stk).1, .int .i64 (topV f.stk).2, .int .i64 (topV f.stk).1, .int .i64 (topV f.stk).2] 57)) := HW.alloc HW.size _
  have HN2 : Hid (GrowV w.heap.size ((w.alloc (.cells #[] 57)).alloc (.cells #[.int .i64 (topV f.stk).1, .int .i64 (topV f.stk).2, .int .i64 (topV f.stk).1, .int .i64 (topV f.stk).2] 57)) (.slice (some ⟨w.heap.size, 0, none⟩) ([] : List Vl).length 0) []) := (growV_nil w).on HV
  have HSV : Hid (SV true 0 ((w.alloc (.cells #[] 57)).alloc (.cells #[.int .i64 (topV f.stk).1, .int .i64 (topV f.stk).2, .int .i64 (topV f.stk).1, .int .i64 (topV f.stk).2] 57)) (.slice (some ⟨(w.alloc (.cells #[] 57)).heap.size, 0, none⟩) ([topV f.stk, topV f.stk]).length 2) ([topV f.stk, topV f.stk])) := sv_two (Cells.new (w.alloc (.cells #[] 57)) _ rfl _ _)
  have HN3 := HN2
  clear HV HW
  unfold c8
  conv => arg 2; whnf
  go_wp2_with (at_builtin; refine wpList_growV _ rfl (.tmp 214) (.tmp 217) rfl w.heap.size w.heap.size 0 [] (by simp [Act.eval]) HN2.out (by simp; omega) (some ⟨w.heap.size + 1, 0, none⟩) 2 0 [topV f.stk, topV f.stk] (by simp [Act.eval]) (by have := HSV.out; rw [World.size_alloc] at this; exact this) (by simp) ?_)
  intro g1 c1 w1 G1 B1 E1 O1
  have hX1 : Below w.heap.size w w1 := hB2.trans B1
  have HG1 : Hid (GrowV w.heap.size w1 (.slice (some ⟨g1, 0, none⟩) ([topV f.stk, topV f.stk] : List Vl).length c1) [topV f.stk, topV f.stk]) := by show GrowV _ _ _ _; simpa using G1
  clear G1 B1 E1 O1 HN2 HSV hB2
  go_wp2_with fail
  refine C.tail hX1 HG1.out.vz.sv (by simp) R ?_
  intro w' hM hb'
  exact HR.out w' (by simpa [takesS] using hM) hb'
set_option maxRecDepth 100000 in
set_option maxHeartbeats 4000000 in
theorem stepOp10 (C : StepC Bp p bp po cap B M m q f own 10 A Bi b2 b6 bi bt G fcap vS vL vh vs vA gc cc ch cf Th Tf w0 w) (R : Ending → World → Prop)
    (hR : ∀ w', MSt B M w' (stepI p m f own (10, A, Bi)).1 → Below B w w' → R (.returned (.int .i64 (stepI p m f own (10, A, Bi)).2)) w') (K : Act → World → Prop) (hK : ∀ a w', Code.wp Try.prog (c8 [true, true, true, true, true, true, true, true, true, true, true, true, true, true, true]) (bodyPost Try.prog Try.f56 R) a w' → K a w')
    {u0 u3 u4 u14 u15 u16 u17 u18 u19 u20 u21 u22 u23 u24 u25 u26 u27 u28 u29 u30 u31 u32 u33 u34 u35 u36 u37 u38 u39 u40 u41 u42 u43 u44 u45 u46 u47 u48 u49 u50 u51 u52 u53 u54 u55 u56 u57 u58 u59 u60 u61 u62 u63 u64 u65 u66 u67 u68 u69 u70 u71 u72 u73 u74 u75 u76 u77 u78 u79 u80 u81 u82 u83 u84 u85 u86 u87 u88 u89 u90 u91 u92 u93 u94 u95 u96 u97 u98 u99 u100 u101 u102 u103 u104 u105 u106 u107 u108 u109 u110 u111 u112 u113 u114 u115 u116 u117 u118 u119 u120 u121 u122 u123 u124 u125 u126 u127 u128 u129 u130 u131 u132 u133 u134 u135 u136 u137 u138 u139 u140 u141 u142 u143 u144 u145 u146 : Value} : Code.wp Try.prog (c8 [true, true, true, true, true, true, true, true, true, true, true, true, true, true, false]) (Exit.then K (bodyPost Try.prog Try.f56 R)) { tmps := #[u0, .pointer (some ⟨M, 0, none⟩), .pointer (some ⟨b2, 0, none⟩), u3, u4, .pointer (some ⟨G, q * 5, none⟩), .pointer (some ⟨b6, 0, none⟩), .pointer (some ⟨bi, 0, none⟩), .int .i64 (f.stk.length : Int), .int .i64 (takesS 10 : Int), .pointer (some ⟨bt, 0, none⟩), .pointer (some ⟨bt + 1, 0, none⟩), .slice (some ⟨w.heap.size, 0, none⟩) 0 0, undef, u14, u15, u16, u17, u18, u19, u20, u21, u22, u23, u24, u25, u26, u27, u28, u29, u30, u31, u32, u33, u34, u35, u36, u37, u38, u39, u40, u41, u42, u43, u44, u45, u46, u47, u48, u49, u50, u51, u52, u53, u54, u55, u56, u57, u58, u59, u60, u61, u62, u63, u64, u65, u66, u67, u68, u69, u70, u71, u72, u73, u74, u75, u76, u77, u78, u79, u80, u81, u82, u83, u84, u85, u86, u87, u88, u89, u90, u91, u92, u93, u94, u95, u96, u97, u98, u99, u100, u101, u102, u103, u104, u105, u106, u107, u108, u109, u110, u111, u112, u113, u114, u115, u116, u117, u118, u119, u120, u121, u122, u123, u124, u125, u126, u127, u128, u129, u130, u131, u132, u133, u134, u135, u136, u137, u138, u139, u140, u141, u142, u143, u144, u145, u146, undef, undef, undef, undef, undef, undef, undef, undef, undef, undef, undef, undef, undef, undef, undef, undef, undef, undef, undef, undef, undef, undef, undef, undef, undef, undef, undef, undef, undef, undef, undef, undef, undef, undef, undef, undef, undef, undef, undef, undef, undef, undef, undef, undef, undef, undef, undef, undef, undef, undef, undef, undef, undef, undef, undef, undef, undef, undef, undef, undef, undef, undef, undef, undef, undef, undef, undef, undef, undef, undef, undef, undef, undef, undef, undef, undef, undef, undef, undef, undef, undef, undef, undef, undef, undef, undef, undef, undef, undef, undef, undef, undef, undef, undef, undef, undef, undef, undef, undef, undef, undef, undef, undef, undef, undef, undef, undef, undef, undef, undef, undef, undef, undef, undef, undef, undef, undef, undef, undef, undef, undef, undef, undef, undef, undef, undef, undef, undef, undef, undef, undef, undef, undef, undef, undef, undef, undef, undef, undef, undef, undef, undef, undef, undef, undef, undef, undef, undef, undef, undef, undef, undef, undef, undef, undef, undef, undef, undef, undef, undef, undef, undef, undef, undef, undef, undef, undef, undef, undef, undef, undef, undef, undef, undef, undef, undef, undef, undef, undef, undef, undef, undef, undef, undef, undef, undef, undef, undef, undef, undef, undef, undef, undef, undef, undef, undef, undef, undef, undef, undef, undef, undef, undef, undef, undef, undef, undef, undef, undef, undef, undef, undef, undef, undef, undef, undef, undef, undef, undef, undef, undef, undef, undef, undef, undef, undef, undef, undef, undef, undef, undef, undef, undef, undef, undef, undef, undef, undef, undef, undef, undef, undef, undef, undef, undef, undef, undef, undef, undef, undef, undef, undef, undef, undef, undef, undef, undef, undef, undef, undef, undef, undef, undef, undef, undef, undef, undef, undef, undef, undef, undef, undef, undef, undef, undef, undef, undef, undef, undef, undef, undef, undef, undef, undef, undef, undef, undef, undef, undef, undef, undef, undef, undef, undef, undef, undef, undef, undef, undef, undef, undef, undef, undef, undef, undef, undef, undef, undef, undef, undef, undef, undef, undef, undef, undef, undef, undef, undef, undef, undef, undef, undef, undef, undef, undef, undef, undef, undef, undef, undef, undef, undef, undef, undef, undef, undef, undef, undef, undef, undef, undef, undef, undef, undef, undef, undef, undef, undef, undef, undef, undef, undef, undef, undef, undef, undef, undef, undef, undef, undef, undef, undef, undef, undef, undef, undef, undef, undef, undef, undef, undef, undef, undef, undef, undef, undef], defers := [] } (w.alloc (.cells #[] 57)) := by
  have hX : Below w.heap.size w (w.alloc (.cells #[] 57)) := (Below.refl _ _).alloc (Nat.le_refl _) _
  have ci := (C.CI.on hX).g0.1
  have ct0 := (C.CT.on hX).g0.1
  have ct1 := (C.CT.on hX).g1.1
  have cn0 := (C.CN.on hX).g0.1
  have cn1 := (C.CN.on hX).g1.1
  have HR : Hid (∀ w', MSt B M w' (stepI p m f own (10, A, Bi)).1 → Below B w w' → R (.returned (.int .i64 (stepI p m f own (10, A, Bi)).2)) w') := hR
  clear hR
  have hsi : stepI p m f own (10, A, Bi) = onS m f 2 [topV f.stk, nextV f.stk] (f.pos + 1) := by
    simp only [stepI]
    rw [if_neg C.step]
    simp
  rw [hsi] at HR
  have HW := hX
  have HV : Below (w.alloc (.cells #[] 57)).heap.size (w.alloc (.cells #[] 57)) ((w.alloc (.cells #[] 57)).alloc (.cells #[.int .i64 (topV f.stk).1, .int .i64 (topV f.stk).2, .int .i64 (nextV f.stk).1, .int .i64 (nextV f.stk).2] 57)) := (Below.refl _ _).alloc (Nat.le_refl _) _
  have hB2 : Below w.heap.size w ((w.alloc (.cells #[] 57)).alloc (.cells #[.int .i64 (topV f.stk).1, .int .i64 (topV f.stk).2, .int .i64 (nextV f.stk).1, .int .i64 (nextV f.stk).2] 57)) := HW.alloc HW.size _
  have HN2 : Hid (GrowV w.heap.size ((w.alloc (.cells #[] 57)).alloc (.cells #[.int .i64 (topV f.stk).1, .int .i64 (topV f.stk).2, .int .i64 (nextV f.stk).1, .int .i64 (nextV f.stk).2] 57)) (.slice (some ⟨w.heap.size, 0, none⟩) ([] : List Vl).length 0) []) := (growV_nil w).on HV
  have HSV : Hid (SV true 0 ((w.alloc (.cells #[] 57)).alloc (.cells #[.int .i64 (topV f.stk).1, .int .i64 (topV f.stk).2, .int .i64 (nextV f.stk).1, .int .i64 (nextV f.stk).2] 57)) (.slice (some ⟨(w.alloc (.cells #[] 57)).heap.size, 0, none⟩) ([topV f.stk, nextV f.stk]).length 2) ([topV f.stk, nextV f.stk])) := sv_two (Cells.new (w.alloc (.cells #[] 57)) _ rfl _ _)
  have HN3 := HN2
  clear HV HW
  unfold c8
  conv => arg 2; whnf
  go_wp2_with (at_builtin; refine wpList_growV _ rfl (.tmp 221) (.tmp 224) rfl w.heap.size w.heap.size 0 [] (by simp [Act.eval]) HN2.out (by simp; omega) (some ⟨w.heap.size + 1, 0, none⟩) 2 0 [topV f.stk, nextV f.stk] (by simp [Act.eval]) (by have := HSV.out; rw [World.size_alloc] at this; exact this) (by simp) ?_)
  intro g1 c1 w1 G1 B1 E1 O1
  have hX1 : Below w.heap.size w w1 := hB2.trans B1
  have HG1 : Hid (GrowV w.heap.size w1 (.slice (some ⟨g1, 0, none⟩) ([topV f.stk, nextV f.stk] : List Vl).length c1) [topV f.stk, nextV f.stk]) := by show GrowV _ _ _ _; simpa using G1
  clear G1 B1 E1 O1 HN2 HSV hB2
  go_wp2_with fail
  refine C.tail hX1 HG1.out.vz.sv (by simp) R ?_
  intro w' hM hb'
  exact HR.out w' (by simpa [takesS] using hM) hb'
end Pg
end Go.Proofs.Ytffkkhaiedhaiaa

/- The step, op by op: 12, 18, 4 to 7. -/
namespace Go.Proofs.Ytffkkhaiedhaiaa
namespace Pg
open Go.ChangeShapes Go.WideShapes Go.ChangeAt Go.RowKit St Wd

variable {Bp : Nat} {p : Prg} {bp po cap B M : Nat} {m : Mc} {q : Nat} {f : Fr} {own : Meth} {op A Bi : Int} {b2 b6 bi bt G fcap : Nat} {vS vL vh vs vA : Value} {gc cc : Nat} {ch cf : List (List Value)} {Th Tf : Nat → Nat → Nat → Prop} {w0 w : World}
set_option maxRecDepth 100000 in
set_option maxHeartbeats 4000000 in
theorem stepOp12 (C : StepC Bp p bp po cap B M m q f own 12 A Bi b2 b6 bi bt G fcap vS vL vh vs vA gc cc ch cf Th Tf w0 w) (R : Ending → World → Prop)
    (hR : ∀ w', MSt B M w' (stepI p m f own (12, A, Bi)).1 → Below B w w' → R (.returned (.int .i64 (stepI p m f own (12, A, Bi)).2)) w') (K : Act → World → Prop) (hK : ∀ a w', Code.wp Try.prog (c8 [true, true, true, true, true, true, true, true, true, true, true, true, true, true, true]) (bodyPost Try.prog Try.f56 R) a w' → K a w')
    {u0 u3 u4 u14 u15 u16 u17 u18 u19 u20 u21 u22 u23 u24 u25 u26 u27 u28 u29 u30 u31 u32 u33 u34 u35 u36 u37 u38 u39 u40 u41 u42 u43 u44 u45 u46 u47 u48 u49 u50 u51 u52 u53 u54 u55 u56 u57 u58 u59 u60 u61 u62 u63 u64 u65 u66 u67 u68 u69 u70 u71 u72 u73 u74 u75 u76 u77 u78 u79 u80 u81 u82 u83 u84 u85 u86 u87 u88 u89 u90 u91 u92 u93 u94 u95 u96 u97 u98 u99 u100 u101 u102 u103 u104 u105 u106 u107 u108 u109 u110 u111 u112 u113 u114 u115 u116 u117 u118 u119 u120 u121 u122 u123 u124 u125 u126 u127 u128 u129 u130 u131 u132 u133 u134 u135 u136 u137 u138 u139 u140 u141 u142 u143 u144 u145 u146 : Value} : Code.wp Try.prog (c8 [true, true, true, true, true, true, true, true, true, true, true, true, true, true, false]) (Exit.then K (bodyPost Try.prog Try.f56 R)) { tmps := #[u0, .pointer (some ⟨M, 0, none⟩), .pointer (some ⟨b2, 0, none⟩), u3, u4, .pointer (some ⟨G, q * 5, none⟩), .pointer (some ⟨b6, 0, none⟩), .pointer (some ⟨bi, 0, none⟩), .int .i64 (f.stk.length : Int), .int .i64 (takesS 12 : Int), .pointer (some ⟨bt, 0, none⟩), .pointer (some ⟨bt + 1, 0, none⟩), .slice (some ⟨w.heap.size, 0, none⟩) 0 0, undef, u14, u15, u16, u17, u18, u19, u20, u21, u22, u23, u24, u25, u26, u27, u28, u29, u30, u31, u32, u33, u34, u35, u36, u37, u38, u39, u40, u41, u42, u43, u44, u45, u46, u47, u48, u49, u50, u51, u52, u53, u54, u55, u56, u57, u58, u59, u60, u61, u62, u63, u64, u65, u66, u67, u68, u69, u70, u71, u72, u73, u74, u75, u76, u77, u78, u79, u80, u81, u82, u83, u84, u85, u86, u87, u88, u89, u90, u91, u92, u93, u94, u95, u96, u97, u98, u99, u100, u101, u102, u103, u104, u105, u106, u107, u108, u109, u110, u111, u112, u113, u114, u115, u116, u117, u118, u119, u120, u121, u122, u123, u124, u125, u126, u127, u128, u129, u130, u131, u132, u133, u134, u135, u136, u137, u138, u139, u140, u141, u142, u143, u144, u145, u146, undef, undef, undef, undef, undef, undef, undef, undef, undef, undef, undef, undef, undef, undef, undef, undef, undef, undef, undef, undef, undef, undef, undef, undef, undef, undef, undef, undef, undef, undef, undef, undef, undef, undef, undef, undef, undef, undef, undef, undef, undef, undef, undef, undef, undef, undef, undef, undef, undef, undef, undef, undef, undef, undef, undef, undef, undef, undef, undef, undef, undef, undef, undef, undef, undef, undef, undef, undef, undef, undef, undef, undef, undef, undef, undef, undef, undef, undef, undef, undef, undef, undef, undef, undef, undef, undef, undef, undef, undef, undef, undef, undef, undef, undef, undef, undef, undef, undef, undef, undef, undef, undef, undef, undef, undef, undef, undef, undef, undef, undef, undef, undef, undef, undef, undef, undef, undef, undef, undef, undef, undef, undef, undef, undef, undef, undef, undef, undef, undef, undef, undef, undef, undef, undef, undef, undef, undef, undef, undef, undef, undef, undef, undef, undef, undef, undef, undef, undef, undef, undef, undef, undef, undef, undef, undef, undef, undef, undef, undef, undef, undef, undef, undef, undef, undef, undef, undef, undef, undef, undef, undef, undef, undef, undef, undef, undef, undef, undef, undef, undef, undef, undef, undef, undef, undef, undef, undef, undef, undef, undef, undef, undef, undef, undef, undef, undef, undef, undef, undef, undef, undef, undef, undef, undef, undef, undef, undef, undef, undef, undef, undef, undef, undef, undef, undef, undef, undef, undef, undef, undef, undef, undef, undef, undef, undef, undef, undef, undef, undef, undef, undef, undef, undef, undef, undef, undef, undef, undef, undef, undef, undef, undef, undef, undef, undef, undef, undef, undef, undef, undef, undef, undef, undef, undef, undef, undef, undef, undef, undef, undef, undef, undef, undef, undef, undef, undef, undef, undef, undef, undef, undef, undef, undef, undef, undef, undef, undef, undef, undef, undef, undef, undef, undef, undef, undef, undef, undef, undef, undef, undef, undef, undef, undef, undef, undef, undef, undef, undef, undef, undef, undef, undef, undef, undef, undef, undef, undef, undef, undef, undef, undef, undef, undef, undef, undef, undef, undef, undef, undef, undef, undef, undef, undef, undef, undef, undef, undef, undef, undef, undef, undef, undef, undef, undef, undef, undef, undef, undef, undef, undef, undef, undef, undef, undef, undef, undef, undef, undef, undef, undef, undef, undef, undef, undef, undef, undef, undef, undef, undef, undef, undef, undef, undef, undef, undef, undef, undef, undef, undef, undef, undef, undef, undef, undef, undef, undef], defers := [] } (w.alloc (.cells #[] 57)) := by
  have hX : Below w.heap.size w (w.alloc (.cells #[] 57)) := (Below.refl _ _).alloc (Nat.le_refl _) _
  have ci := (C.CI.on hX).g0.1
  have ct0 := (C.CT.on hX).g0.1
  have ct1 := (C.CT.on hX).g1.1
  have HR : Hid (∀ w', MSt B M w' (stepI p m f own (12, A, Bi)).1 → Below B w w' → R (.returned (.int .i64 (stepI p m f own (12, A, Bi)).2)) w') := hR
  clear hR
  by_cases ht : (topV f.stk).1 = 1
  · have hsi : stepI p m f own (12, A, Bi) = onS m f 1 [] (if (topV f.stk).2 = 0 then A else f.pos + 1) := by
      simp only [stepI]
      rw [if_neg C.step]
      simp [ht]
    rw [hsi] at HR
    rw [ht] at ct0
    unfold c8
    conv => arg 2; whnf
    go_wp2_with fail
    have hN := growV_nil w
    refine C.tail hX hN.vz.sv (by simp) R ?_
    intro w' hM hb'
    exact HR.out w' (by simpa [takesS] using hM) hb'
  · have hb : ((topV f.stk).1 != 1) = true := by simp [ht]
    have hsi : stepI p m f own (12, A, Bi) = (m, 6) := by
      simp only [stepI]
      rw [if_neg C.step]
      simp [ht]
    rw [hsi] at HR
    unfold c8
    conv => arg 2; whnf
    go_wp2_with fail
    exact HR.out _ (C.TW.on hX).st (hX.mono (Nat.le_trans C.hB C.b0.size))
set_option maxRecDepth 100000 in
set_option maxHeartbeats 4000000 in
theorem stepOp18 (C : StepC Bp p bp po cap B M m q f own 18 A Bi b2 b6 bi bt G fcap vS vL vh vs vA gc cc ch cf Th Tf w0 w) (R : Ending → World → Prop)
    (hR : ∀ w', MSt B M w' (stepI p m f own (18, A, Bi)).1 → Below B w w' → R (.returned (.int .i64 (stepI p m f own (18, A, Bi)).2)) w') (K : Act → World → Prop) (hK : ∀ a w', Code.wp Try.prog (c8 [true, true, true, true, true, true, true, true, true, true, true, true, true, true, true]) (bodyPost Try.prog Try.f56 R) a w' → K a w')
    {u0 u3 u4 u14 u15 u16 u17 u18 u19 u20 u21 u22 u23 u24 u25 u26 u27 u28 u29 u30 u31 u32 u33 u34 u35 u36 u37 u38 u39 u40 u41 u42 u43 u44 u45 u46 u47 u48 u49 u50 u51 u52 u53 u54 u55 u56 u57 u58 u59 u60 u61 u62 u63 u64 u65 u66 u67 u68 u69 u70 u71 u72 u73 u74 u75 u76 u77 u78 u79 u80 u81 u82 u83 u84 u85 u86 u87 u88 u89 u90 u91 u92 u93 u94 u95 u96 u97 u98 u99 u100 u101 u102 u103 u104 u105 u106 u107 u108 u109 u110 u111 u112 u113 u114 u115 u116 u117 u118 u119 u120 u121 u122 u123 u124 u125 u126 u127 u128 u129 u130 u131 u132 u133 u134 u135 u136 u137 u138 u139 u140 u141 u142 u143 u144 u145 u146 : Value} : Code.wp Try.prog (c8 [true, true, true, true, true, true, true, true, true, true, true, true, true, true, false]) (Exit.then K (bodyPost Try.prog Try.f56 R)) { tmps := #[u0, .pointer (some ⟨M, 0, none⟩), .pointer (some ⟨b2, 0, none⟩), u3, u4, .pointer (some ⟨G, q * 5, none⟩), .pointer (some ⟨b6, 0, none⟩), .pointer (some ⟨bi, 0, none⟩), .int .i64 (f.stk.length : Int), .int .i64 (takesS 18 : Int), .pointer (some ⟨bt, 0, none⟩), .pointer (some ⟨bt + 1, 0, none⟩), .slice (some ⟨w.heap.size, 0, none⟩) 0 0, undef, u14, u15, u16, u17, u18, u19, u20, u21, u22, u23, u24, u25, u26, u27, u28, u29, u30, u31, u32, u33, u34, u35, u36, u37, u38, u39, u40, u41, u42, u43, u44, u45, u46, u47, u48, u49, u50, u51, u52, u53, u54, u55, u56, u57, u58, u59, u60, u61, u62, u63, u64, u65, u66, u67, u68, u69, u70, u71, u72, u73, u74, u75, u76, u77, u78, u79, u80, u81, u82, u83, u84, u85, u86, u87, u88, u89, u90, u91, u92, u93, u94, u95, u96, u97, u98, u99, u100, u101, u102, u103, u104, u105, u106, u107, u108, u109, u110, u111, u112, u113, u114, u115, u116, u117, u118, u119, u120, u121, u122, u123, u124, u125, u126, u127, u128, u129, u130, u131, u132, u133, u134, u135, u136, u137, u138, u139, u140, u141, u142, u143, u144, u145, u146, undef, undef, undef, undef, undef, undef, undef, undef, undef, undef, undef, undef, undef, undef, undef, undef, undef, undef, undef, undef, undef, undef, undef, undef, undef, undef, undef, undef, undef, undef, undef, undef, undef, undef, undef, undef, undef, undef, undef, undef, undef, undef, undef, undef, undef, undef, undef, undef, undef, undef, undef, undef, undef, undef, undef, undef, undef, undef, undef, undef, undef, undef, undef, undef, undef, undef, undef, undef, undef, undef, undef, undef, undef, undef, undef, undef, undef, undef, undef, undef, undef, undef, undef, undef, undef, undef, undef, undef, undef, undef, undef, undef, undef, undef, undef, undef, undef, undef, undef, undef, undef, undef, undef, undef, undef, undef, undef, undef, undef, undef, undef, undef, undef, undef, undef, undef, undef, undef, undef, undef, undef, undef, undef, undef, undef, undef, undef, undef, undef, undef, undef, undef, undef, undef, undef, undef, undef, undef, undef, undef, undef, undef, undef, undef, undef, undef, undef, undef, undef, undef, undef, undef, undef, undef, undef, undef, undef, undef, undef, undef, undef, undef, undef, undef, undef, undef, undef, undef, undef, undef, undef, undef, undef, undef, undef, undef, undef, undef, undef, undef, undef, undef, undef, undef, undef, undef, undef, undef, undef, undef, undef, undef, undef, undef, undef, undef, undef, undef, undef, undef, undef, undef, undef, undef, undef, undef, undef, undef, undef, undef, undef, undef, undef, undef, undef, undef, undef, undef, undef, undef, undef, undef, undef, undef, undef, undef, undef, undef, undef, undef, undef, undef, undef, undef, undef, undef, undef, undef, undef, undef, undef, undef, undef, undef, undef, undef, undef, undef, undef, undef, undef, undef, undef, undef, undef, undef, undef, undef, undef, undef, undef, undef, undef, undef, undef, undef, undef, undef, undef, undef, undef, undef, undef, undef, undef, undef, undef, undef, undef, undef, undef, undef, undef, undef, undef, undef, undef, undef, undef, undef, undef, undef, undef, undef, undef, undef, undef, undef, undef, undef, undef, undef, undef, undef, undef, undef, undef, undef, undef, undef, undef, undef, undef, undef, undef, undef, undef, undef, undef, undef, undef, undef, undef, undef, undef, undef, undef, undef, undef, undef, undef, undef, undef, undef, undef, undef, undef, undef, undef, undef, undef, undef, undef, undef, undef, undef, undef, undef, undef, undef, undef, undef, undef, undef, undef, undef, undef, undef, undef, undef, undef, undef, undef, undef, undef, undef, undef, undef, undef, undef, undef, undef, undef, undef, undef, undef], defers := [] } (w.alloc (.cells #[] 57)) := by
  have hX : Below w.heap.size w (w.alloc (.cells #[] 57)) := (Below.refl _ _).alloc (Nat.le_refl _) _
  have ci := (C.CI.on hX).g0.1
  have ct0 := (C.CT.on hX).g0.1
  have ct1 := (C.CT.on hX).g1.1
  have HR : Hid (∀ w', MSt B M w' (stepI p m f own (18, A, Bi)).1 → Below B w w' → R (.returned (.int .i64 (stepI p m f own (18, A, Bi)).2)) w') := hR
  clear hR
  by_cases ht : (topV f.stk).1 = 1
  · rw [ht] at ct0
    have hsi : stepI p m f own (18, A, Bi) = (m, 6) := by
      simp only [stepI]
      rw [if_neg C.step]
      simp [ht]
    rw [hsi] at HR
    unfold c8
    conv => arg 2; whnf
    go_wp2_with fail
    exact HR.out _ (C.TW.on hX).st (hX.mono (Nat.le_trans C.hB C.b0.size))
  · have hb : ((topV f.stk).1 == 1) = false := by simp [ht]
    by_cases h3 : (topV f.stk).1 = 3
    · rw [h3] at ct0
      have hsi : stepI p m f own (18, A, Bi) = onS m f 1 [(1, 1)] (f.pos + 1) := by
        simp only [stepI]
        rw [if_neg C.step]
        simp [h3]
      rw [hsi] at HR
      have HW : Below w.heap.size w ((w.alloc (.cells #[] 57)).alloc (.cells #[.int .i64 1, .int .i64 1] 57)) := hX.alloc hX.size _
      have HV : Below (w.alloc (.cells #[] 57)).heap.size (w.alloc (.cells #[] 57)) (((w.alloc (.cells #[] 57)).alloc (.cells #[.int .i64 1, .int .i64 1] 57)).alloc (.cells #[.int .i64 1, .int .i64 1] 57)) := ((Below.refl _ _).alloc (Nat.le_refl _) _).alloc (by simp) _
      have ct0' := (C.CT.on HW).g0.1
      rw [h3] at ct0'
      have CV := Cells.new (w.alloc (.cells #[] 57)) _ rfl [.int .i64 1, .int .i64 0] 57
      have ct2 := ((C.CT.on hX).alloc (.cells #[.int .i64 1, .int .i64 0] 57)).g0.1
      rw [h3] at ct2
      have hB2 : Below w.heap.size w (((w.alloc (.cells #[] 57)).alloc (.cells #[.int .i64 1, .int .i64 1] 57)).alloc (.cells #[.int .i64 1, .int .i64 1] 57)) := HW.alloc HW.size _
      have HN2 : Hid (GrowV w.heap.size (((w.alloc (.cells #[] 57)).alloc (.cells #[.int .i64 1, .int .i64 1] 57)).alloc (.cells #[.int .i64 1, .int .i64 1] 57)) (.slice (some ⟨w.heap.size, 0, none⟩) ([] : List Vl).length 0) []) := (growV_nil w).on HV
      have HSV : Hid (SV true 0 (((w.alloc (.cells #[] 57)).alloc (.cells #[.int .i64 1, .int .i64 1] 57)).alloc (.cells #[.int .i64 1, .int .i64 1] 57)) (.slice (some ⟨((w.alloc (.cells #[] 57)).alloc (.cells #[.int .i64 1, .int .i64 1] 57)).heap.size, 0, none⟩) ([(1, 1)]).length 1) ([(1, 1)])) := sv_one (Cells.new ((w.alloc (.cells #[] 57)).alloc (.cells #[.int .i64 1, .int .i64 1] 57)) _ rfl _ _)
      clear HV HW
      unfold c8
      conv => arg 2; whnf
      go_wp2_with (at_builtin; refine wpList_growV _ rfl (.tmp 465) (.tmp 467) rfl w.heap.size w.heap.size 0 [] (by simp [Act.eval]) HN2.out (by simp; omega) (some ⟨w.heap.size + 1 + 1, 0, none⟩) 1 0 [(1, 1)] (by simp [Act.eval]) (by have := HSV.out; simp only [World.size_alloc] at this; exact this) (by simp) ?_)
      intro g1 c1 w1 G1 B1 E1 O1
      have hX1 : Below w.heap.size w w1 := hB2.trans B1
      have HG1 : Hid (GrowV w.heap.size w1 (.slice (some ⟨g1, 0, none⟩) ([(1, 1)] : List Vl).length c1) [(1, 1)]) := by show GrowV _ _ _ _; simpa using G1
      clear G1 B1 E1 O1 HN2 HSV hB2
      go_wp2_with fail
      refine C.tail hX1 HG1.out.vz.sv (by simp) R ?_
      intro w' hM hb'
      exact HR.out w' (by simpa [takesS] using hM) hb'
    · have hb3 : ((topV f.stk).1 == 3) = false := by simp [h3]
      have hsi : stepI p m f own (18, A, Bi) = onS m f 1 [(1, 0)] (f.pos + 1) := by
        simp only [stepI]
        rw [if_neg C.step]
        simp [ht, h3]
      rw [hsi] at HR
      have HW : Below w.heap.size w ((w.alloc (.cells #[] 57)).alloc (.cells #[.int .i64 1, .int .i64 0] 57)) := hX.alloc hX.size _
      have HV : Below (w.alloc (.cells #[] 57)).heap.size (w.alloc (.cells #[] 57)) (((w.alloc (.cells #[] 57)).alloc (.cells #[.int .i64 1, .int .i64 0] 57)).alloc (.cells #[.int .i64 1, .int .i64 0] 57)) := ((Below.refl _ _).alloc (Nat.le_refl _) _).alloc (by simp) _
      have ct0' := (C.CT.on HW).g0.1
      have hB2 : Below w.heap.size w (((w.alloc (.cells #[] 57)).alloc (.cells #[.int .i64 1, .int .i64 0] 57)).alloc (.cells #[.int .i64 1, .int .i64 0] 57)) := HW.alloc HW.size _
      have HN2 : Hid (GrowV w.heap.size (((w.alloc (.cells #[] 57)).alloc (.cells #[.int .i64 1, .int .i64 0] 57)).alloc (.cells #[.int .i64 1, .int .i64 0] 57)) (.slice (some ⟨w.heap.size, 0, none⟩) ([] : List Vl).length 0) []) := (growV_nil w).on HV
      have HSV : Hid (SV true 0 (((w.alloc (.cells #[] 57)).alloc (.cells #[.int .i64 1, .int .i64 0] 57)).alloc (.cells #[.int .i64 1, .int .i64 0] 57)) (.slice (some ⟨((w.alloc (.cells #[] 57)).alloc (.cells #[.int .i64 1, .int .i64 0] 57)).heap.size, 0, none⟩) ([(1, 0)]).length 1) ([(1, 0)])) := sv_one (Cells.new ((w.alloc (.cells #[] 57)).alloc (.cells #[.int .i64 1, .int .i64 0] 57)) _ rfl _ _)
      clear HV HW
      unfold c8
      conv => arg 2; whnf
      go_wp2_with (at_builtin; refine wpList_growV _ rfl (.tmp 465) (.tmp 467) rfl w.heap.size w.heap.size 0 [] (by simp [Act.eval]) HN2.out (by simp; omega) (some ⟨w.heap.size + 1 + 1, 0, none⟩) 1 0 [(1, 0)] (by simp [Act.eval]) (by have := HSV.out; simp only [World.size_alloc] at this; exact this) (by simp) ?_)
      intro g1 c1 w1 G1 B1 E1 O1
      have hX1 : Below w.heap.size w w1 := hB2.trans B1
      have HG1 : Hid (GrowV w.heap.size w1 (.slice (some ⟨g1, 0, none⟩) ([(1, 0)] : List Vl).length c1) [(1, 0)]) := by show GrowV _ _ _ _; simpa using G1
      clear G1 B1 E1 O1 HN2 HSV hB2
      go_wp2_with fail
      refine C.tail hX1 HG1.out.vz.sv (by simp) R ?_
      intro w' hM hb'
      exact HR.out w' (by simpa [takesS] using hM) hb'
set_option maxRecDepth 100000 in
set_option maxHeartbeats 4000000 in
theorem stepOp4 (C : StepC Bp p bp po cap B M m q f own 4 A Bi b2 b6 bi bt G fcap vS vL vh vs vA gc cc ch cf Th Tf w0 w) (R : Ending → World → Prop)
    (hR : ∀ w', MSt B M w' (stepI p m f own (4, A, Bi)).1 → Below B w w' → R (.returned (.int .i64 (stepI p m f own (4, A, Bi)).2)) w') (K : Act → World → Prop) (hK : ∀ a w', Code.wp Try.prog (c8 [true, true, true, true, true, true, true, true, true, true, true, true, true, true, true]) (bodyPost Try.prog Try.f56 R) a w' → K a w')
    {u0 u3 u4 u14 u15 u16 u17 u18 u19 u20 u21 u22 u23 u24 u25 u26 u27 u28 u29 u30 u31 u32 u33 u34 u35 u36 u37 u38 u39 u40 u41 u42 u43 u44 u45 u46 u47 u48 u49 u50 u51 u52 u53 u54 u55 u56 u57 u58 u59 u60 u61 u62 u63 u64 u65 u66 u67 u68 u69 u70 u71 u72 u73 u74 u75 u76 u77 u78 u79 u80 u81 u82 u83 u84 u85 u86 u87 u88 u89 u90 u91 u92 u93 u94 u95 u96 u97 u98 u99 u100 u101 u102 u103 u104 u105 u106 u107 u108 u109 u110 u111 u112 u113 u114 u115 u116 u117 u118 u119 u120 u121 u122 u123 u124 u125 u126 u127 u128 u129 u130 u131 u132 u133 u134 u135 u136 u137 u138 u139 u140 u141 u142 u143 u144 u145 u146 : Value} : Code.wp Try.prog (c8 [true, true, true, true, true, true, true, true, true, true, true, true, true, true, false]) (Exit.then K (bodyPost Try.prog Try.f56 R)) { tmps := #[u0, .pointer (some ⟨M, 0, none⟩), .pointer (some ⟨b2, 0, none⟩), u3, u4, .pointer (some ⟨G, q * 5, none⟩), .pointer (some ⟨b6, 0, none⟩), .pointer (some ⟨bi, 0, none⟩), .int .i64 (f.stk.length : Int), .int .i64 (takesS 4 : Int), .pointer (some ⟨bt, 0, none⟩), .pointer (some ⟨bt + 1, 0, none⟩), .slice (some ⟨w.heap.size, 0, none⟩) 0 0, undef, u14, u15, u16, u17, u18, u19, u20, u21, u22, u23, u24, u25, u26, u27, u28, u29, u30, u31, u32, u33, u34, u35, u36, u37, u38, u39, u40, u41, u42, u43, u44, u45, u46, u47, u48, u49, u50, u51, u52, u53, u54, u55, u56, u57, u58, u59, u60, u61, u62, u63, u64, u65, u66, u67, u68, u69, u70, u71, u72, u73, u74, u75, u76, u77, u78, u79, u80, u81, u82, u83, u84, u85, u86, u87, u88, u89, u90, u91, u92, u93, u94, u95, u96, u97, u98, u99, u100, u101, u102, u103, u104, u105, u106, u107, u108, u109, u110, u111, u112, u113, u114, u115, u116, u117, u118, u119, u120, u121, u122, u123, u124, u125, u126, u127, u128, u129, u130, u131, u132, u133, u134, u135, u136, u137, u138, u139, u140, u141, u142, u143, u144, u145, u146, undef, undef, undef, undef, undef, undef, undef, undef, undef, undef, undef, undef, undef, undef, undef, undef, undef, undef, undef, undef, undef, undef, undef, undef, undef, undef, undef, undef, undef, undef, undef, undef, undef, undef, undef, undef, undef, undef, undef, undef, undef, undef, undef, undef, undef, undef, undef, undef, undef, undef, undef, undef, undef, undef, undef, undef, undef, undef, undef, undef, undef, undef, undef, undef, undef, undef, undef, undef, undef, undef, undef, undef, undef, undef, undef, undef, undef, undef, undef, undef, undef, undef, undef, undef, undef, undef, undef, undef, undef, undef, undef, undef, undef, undef, undef, undef, undef, undef, undef, undef, undef, undef, undef, undef, undef, undef, undef, undef, undef, undef, undef, undef, undef, undef, undef, undef, undef, undef, undef, undef, undef, undef, undef, undef, undef, undef, undef, undef, undef, undef, undef, undef, undef, undef, undef, undef, undef, undef, undef, undef, undef, undef, undef, undef, undef, undef, undef, undef, undef, undef, undef, undef, undef, undef, undef, undef, undef, undef, undef, undef, undef, undef, undef, undef, undef, undef, undef, undef, undef, undef, undef, undef, undef, undef, undef, undef, undef, undef, undef, undef, undef, undef, undef, undef, undef, undef, undef, undef, undef, undef, undef, undef, undef, undef, undef, undef, undef, undef, undef, undef, undef, undef, undef, undef, undef, undef, undef, undef, undef, undef, undef, undef, undef, undef, undef, undef, undef, undef, undef, undef, undef, undef, undef, undef, undef, undef, undef, undef, undef, undef, undef, undef, undef, undef, undef, undef, undef, undef, undef, undef, undef, undef, undef, undef, undef, undef, undef, undef, undef, undef, undef, undef, undef, undef, undef, undef, undef, undef, undef, undef, undef, undef, undef, undef, undef, undef, undef, undef, undef, undef, undef, undef, undef, undef, undef, undef, undef, undef, undef, undef, undef, undef, undef, undef, undef, undef, undef, undef, undef, undef, undef, undef, undef, undef, undef, undef, undef, undef, undef, undef, undef, undef, undef, undef, undef, undef, undef, undef, undef, undef, undef, undef, undef, undef, undef, undef, undef, undef, undef, undef, undef, undef, undef, undef, undef, undef, undef, undef, undef, undef, undef, undef, undef, undef, undef, undef, undef, undef, undef, undef, undef, undef, undef, undef, undef, undef, undef, undef, undef, undef, undef, undef, undef, undef, undef, undef, undef, undef, undef, undef, undef, undef, undef, undef, undef, undef, undef, undef, undef, undef, undef, undef, undef, undef, undef, undef], defers := [] } (w.alloc (.cells #[] 57)) := by
  have hX : Below w.heap.size w (w.alloc (.cells #[] 57)) := (Below.refl _ _).alloc (Nat.le_refl _) _
  have ci := (C.CI.on hX).g0.1
  have ct0 := (C.CT.on hX).g0.1
  have ct1 := (C.CT.on hX).g1.1
  have cn0 := (C.CN.on hX).g0.1
  have cn1 := (C.CN.on hX).g1.1
  have HR : Hid (∀ w', MSt B M w' (stepI p m f own (4, A, Bi)).1 → Below B w w' → R (.returned (.int .i64 (stepI p m f own (4, A, Bi)).2)) w') := hR
  clear hR
  have hs2 : 2 ≤ f.stk.length := by have := C.nt; simpa [takesS] using this
  by_cases ht : (topV f.stk).1 = 1
  · rw [ht] at ct0
    by_cases hn : (nextV f.stk).1 = 1
    · rw [hn] at cn0
      have hvt : okB (topV f.stk).2 = true := by have := top_ok C.fok.sv (by omega); unfold valB at this; rw [if_pos ht] at this; exact this
      have hvn : okB (nextV f.stk).2 = true := by have := next_ok C.fok.sv hs2; unfold valB at this; rw [if_pos hn] at this; exact this
      have hsi : stepI p m f own (4, A, Bi) = onS m f 2 [(1, sumS 4 (nextV f.stk).2 (topV f.stk).2)] (f.pos + 1) := by
        simp only [stepI]
        rw [if_neg C.step]
        simp [ht, hn]
      rw [hsi] at HR
      have HW := hX
      have HV : Below (w.alloc (.cells #[] 57)).heap.size (w.alloc (.cells #[] 57)) ((w.alloc (.cells #[] 57)).alloc (.cells #[.int .i64 1, .int .i64 (sumS 4 (nextV f.stk).2 (topV f.stk).2)] 57)) := (Below.refl _ _).alloc (Nat.le_refl _) _
      have hB2 : Below w.heap.size w ((w.alloc (.cells #[] 57)).alloc (.cells #[.int .i64 1, .int .i64 (sumS 4 (nextV f.stk).2 (topV f.stk).2)] 57)) := HW.alloc HW.size _
      have HN2 : Hid (GrowV w.heap.size ((w.alloc (.cells #[] 57)).alloc (.cells #[.int .i64 1, .int .i64 (sumS 4 (nextV f.stk).2 (topV f.stk).2)] 57)) (.slice (some ⟨w.heap.size, 0, none⟩) ([] : List Vl).length 0) []) := (growV_nil w).on HV
      have HSV : Hid (SV true 0 ((w.alloc (.cells #[] 57)).alloc (.cells #[.int .i64 1, .int .i64 (sumS 4 (nextV f.stk).2 (topV f.stk).2)] 57)) (.slice (some ⟨(w.alloc (.cells #[] 57)).heap.size, 0, none⟩) ([(1, sumS 4 (nextV f.stk).2 (topV f.stk).2)]).length 1) ([(1, sumS 4 (nextV f.stk).2 (topV f.stk).2)])) := sv_one (Cells.new (w.alloc (.cells #[] 57)) _ rfl _ _)
      have HCA := l8Sum_at 4 (nextV f.stk).2 (topV f.stk).2 (by simp) hvn hvt (fun h => by simp at h) (w.alloc (.cells #[] 57))
      have HSU : Hid (Calls Try.prog 88 #[.int .i64 4, .int .i64 (nextV f.stk).2, .int .i64 (topV f.stk).2] (w.alloc (.cells #[] 57)) fun e w' => e = .returned (.int .i64 (sumS 4 (nextV f.stk).2 (topV f.stk).2)) ∧ (w.alloc (.cells #[] 57)) = w') := HCA
      clear HV HW HCA
      unfold c8
      conv => arg 2; whnf
      go_wp2_with fail
      refine HSU.out.mono ?_
      rintro e _ ⟨rfl, rfl⟩
      generalize sumS 4 (nextV f.stk).2 (topV f.stk).2 = su at *
      go_wp2_with (at_builtin; refine wpList_growV _ rfl (.tmp 201) (.tmp 210) rfl w.heap.size w.heap.size 0 [] (by simp [Act.eval]) HN2.out (by simp; omega) (some ⟨w.heap.size + 1, 0, none⟩) 1 0 [(1, su)] (by simp [Act.eval]) (by have := HSV.out; rw [World.size_alloc] at this; exact this) (by simp) ?_)
      intro g1 c1 w1 G1 B1 E1 O1
      have hX1 : Below w.heap.size w w1 := hB2.trans B1
      have HG1 : Hid (GrowV w.heap.size w1 (.slice (some ⟨g1, 0, none⟩) ([(1, su)] : List Vl).length c1) [(1, su)]) := by show GrowV _ _ _ _; simpa using G1
      clear G1 B1 E1 O1 HN2 HSV hB2
      go_wp2_with fail
      refine C.tail hX1 HG1.out.vz.sv (by simp) R ?_
      intro w' hM hb'
      exact HR.out w' (by simpa [takesS] using hM) hb'
    · have hbn : ((nextV f.stk).1 != 1) = true := by simp [hn]
      have hsi : stepI p m f own (4, A, Bi) = (m, 6) := by
        simp only [stepI]
        rw [if_neg C.step]
        simp [ht, hn]
      rw [hsi] at HR
      unfold c8
      conv => arg 2; whnf
      go_wp2_with fail
      exact HR.out _ (C.TW.on hX).st (hX.mono (Nat.le_trans C.hB C.b0.size))
  · have hbt : ((topV f.stk).1 != 1) = true := by simp [ht]
    have hsi : stepI p m f own (4, A, Bi) = (m, 6) := by
      simp only [stepI]
      rw [if_neg C.step]
      simp [ht]
    rw [hsi] at HR
    unfold c8
    conv => arg 2; whnf
    go_wp2_with fail
    exact HR.out _ (C.TW.on hX).st (hX.mono (Nat.le_trans C.hB C.b0.size))
set_option maxRecDepth 100000 in
set_option maxHeartbeats 4000000 in
theorem stepOp5 (C : StepC Bp p bp po cap B M m q f own 5 A Bi b2 b6 bi bt G fcap vS vL vh vs vA gc cc ch cf Th Tf w0 w) (R : Ending → World → Prop)
    (hR : ∀ w', MSt B M w' (stepI p m f own (5, A, Bi)).1 → Below B w w' → R (.returned (.int .i64 (stepI p m f own (5, A, Bi)).2)) w') (K : Act → World → Prop) (hK : ∀ a w', Code.wp Try.prog (c8 [true, true, true, true, true, true, true, true, true, true, true, true, true, true, true]) (bodyPost Try.prog Try.f56 R) a w' → K a w')
    {u0 u3 u4 u14 u15 u16 u17 u18 u19 u20 u21 u22 u23 u24 u25 u26 u27 u28 u29 u30 u31 u32 u33 u34 u35 u36 u37 u38 u39 u40 u41 u42 u43 u44 u45 u46 u47 u48 u49 u50 u51 u52 u53 u54 u55 u56 u57 u58 u59 u60 u61 u62 u63 u64 u65 u66 u67 u68 u69 u70 u71 u72 u73 u74 u75 u76 u77 u78 u79 u80 u81 u82 u83 u84 u85 u86 u87 u88 u89 u90 u91 u92 u93 u94 u95 u96 u97 u98 u99 u100 u101 u102 u103 u104 u105 u106 u107 u108 u109 u110 u111 u112 u113 u114 u115 u116 u117 u118 u119 u120 u121 u122 u123 u124 u125 u126 u127 u128 u129 u130 u131 u132 u133 u134 u135 u136 u137 u138 u139 u140 u141 u142 u143 u144 u145 u146 : Value} : Code.wp Try.prog (c8 [true, true, true, true, true, true, true, true, true, true, true, true, true, true, false]) (Exit.then K (bodyPost Try.prog Try.f56 R)) { tmps := #[u0, .pointer (some ⟨M, 0, none⟩), .pointer (some ⟨b2, 0, none⟩), u3, u4, .pointer (some ⟨G, q * 5, none⟩), .pointer (some ⟨b6, 0, none⟩), .pointer (some ⟨bi, 0, none⟩), .int .i64 (f.stk.length : Int), .int .i64 (takesS 5 : Int), .pointer (some ⟨bt, 0, none⟩), .pointer (some ⟨bt + 1, 0, none⟩), .slice (some ⟨w.heap.size, 0, none⟩) 0 0, undef, u14, u15, u16, u17, u18, u19, u20, u21, u22, u23, u24, u25, u26, u27, u28, u29, u30, u31, u32, u33, u34, u35, u36, u37, u38, u39, u40, u41, u42, u43, u44, u45, u46, u47, u48, u49, u50, u51, u52, u53, u54, u55, u56, u57, u58, u59, u60, u61, u62, u63, u64, u65, u66, u67, u68, u69, u70, u71, u72, u73, u74, u75, u76, u77, u78, u79, u80, u81, u82, u83, u84, u85, u86, u87, u88, u89, u90, u91, u92, u93, u94, u95, u96, u97, u98, u99, u100, u101, u102, u103, u104, u105, u106, u107, u108, u109, u110, u111, u112, u113, u114, u115, u116, u117, u118, u119, u120, u121, u122, u123, u124, u125, u126, u127, u128, u129, u130, u131, u132, u133, u134, u135, u136, u137, u138, u139, u140, u141, u142, u143, u144, u145, u146, undef, undef, undef, undef, undef, undef, undef, undef, undef, undef, undef, undef, undef, undef, undef, undef, undef, undef, undef, undef, undef, undef, undef, undef, undef, undef, undef, undef, undef, undef, undef, undef, undef, undef, undef, undef, undef, undef, undef, undef, undef, undef, undef, undef, undef, undef, undef, undef, undef, undef, undef, undef, undef, undef, undef, undef, undef, undef, undef, undef, undef, undef, undef, undef, undef, undef, undef, undef, undef, undef, undef, undef, undef, undef, undef, undef, undef, undef, undef, undef, undef, undef, undef, undef, undef, undef, undef, undef, undef, undef, undef, undef, undef, undef, undef, undef, undef, undef, undef, undef, undef, undef, undef, undef, undef, undef, undef, undef, undef, undef, undef, undef, undef, undef, undef, undef, undef, undef, undef, undef, undef, undef, undef, undef, undef, undef, undef, undef, undef, undef, undef, undef, undef, undef, undef, undef, undef, undef, undef, undef, undef, undef, undef, undef, undef, undef, undef, undef, undef, undef, undef, undef, undef, undef, undef, undef, undef, undef, undef, undef, undef, undef, undef, undef, undef, undef, undef, undef, undef, undef, undef, undef, undef, undef, undef, undef, undef, undef, undef, undef, undef, undef, undef, undef, undef, undef, undef, undef, undef, undef, undef, undef, undef, undef, undef, undef, undef, undef, undef, undef, undef, undef, undef, undef, undef, undef, undef, undef, undef, undef, undef, undef, undef, undef, undef, undef, undef, undef, undef, undef, undef, undef, undef, undef, undef, undef, undef, undef, undef, undef, undef, undef, undef, undef, undef, undef, undef, undef, undef, undef, undef, undef, undef, undef, undef, undef, undef, undef, undef, undef, undef, undef, undef, undef, undef, undef, undef, undef, undef, undef, undef, undef, undef, undef, undef, undef, undef, undef, undef, undef, undef, undef, undef, undef, undef, undef, undef, undef, undef, undef, undef, undef, undef, undef, undef, undef, undef, undef, undef, undef, undef, undef, undef, undef, undef, undef, undef, undef, undef, undef, undef, undef, undef, undef, undef, undef, undef, undef, undef, undef, undef, undef, undef, undef, undef, undef, undef, undef, undef, undef, undef, undef, undef, undef, undef, undef, undef, undef, undef, undef, undef, undef, undef, undef, undef, undef, undef, undef, undef, undef, undef, undef, undef, undef, undef, undef, undef, undef, undef, undef, undef, undef, undef, undef, undef, undef, undef, undef, undef, undef, undef, undef, undef, undef, undef, undef, undef, undef, undef, undef, undef, undef, undef, undef, undef, undef], defers := [] } (w.alloc (.cells #[] 57)) := by
  have hX : Below w.heap.size w (w.alloc (.cells #[] 57)) := (Below.refl _ _).alloc (Nat.le_refl _) _
  have ci := (C.CI.on hX).g0.1
  have ct0 := (C.CT.on hX).g0.1
  have ct1 := (C.CT.on hX).g1.1
  have cn0 := (C.CN.on hX).g0.1
  have cn1 := (C.CN.on hX).g1.1
  have HR : Hid (∀ w', MSt B M w' (stepI p m f own (5, A, Bi)).1 → Below B w w' → R (.returned (.int .i64 (stepI p m f own (5, A, Bi)).2)) w') := hR
  clear hR
  have hs2 : 2 ≤ f.stk.length := by have := C.nt; simpa [takesS] using this
  by_cases ht : (topV f.stk).1 = 1
  · rw [ht] at ct0
    by_cases hn : (nextV f.stk).1 = 1
    · rw [hn] at cn0
      have hvt : okB (topV f.stk).2 = true := by have := top_ok C.fok.sv (by omega); unfold valB at this; rw [if_pos ht] at this; exact this
      have hvn : okB (nextV f.stk).2 = true := by have := next_ok C.fok.sv hs2; unfold valB at this; rw [if_pos hn] at this; exact this
      have hsi : stepI p m f own (5, A, Bi) = onS m f 2 [(1, sumS 5 (nextV f.stk).2 (topV f.stk).2)] (f.pos + 1) := by
        simp only [stepI]
        rw [if_neg C.step]
        simp [ht, hn]
      rw [hsi] at HR
      have HW := hX
      have HV : Below (w.alloc (.cells #[] 57)).heap.size (w.alloc (.cells #[] 57)) ((w.alloc (.cells #[] 57)).alloc (.cells #[.int .i64 1, .int .i64 (sumS 5 (nextV f.stk).2 (topV f.stk).2)] 57)) := (Below.refl _ _).alloc (Nat.le_refl _) _
      have hB2 : Below w.heap.size w ((w.alloc (.cells #[] 57)).alloc (.cells #[.int .i64 1, .int .i64 (sumS 5 (nextV f.stk).2 (topV f.stk).2)] 57)) := HW.alloc HW.size _
      have HN2 : Hid (GrowV w.heap.size ((w.alloc (.cells #[] 57)).alloc (.cells #[.int .i64 1, .int .i64 (sumS 5 (nextV f.stk).2 (topV f.stk).2)] 57)) (.slice (some ⟨w.heap.size, 0, none⟩) ([] : List Vl).length 0) []) := (growV_nil w).on HV
      have HSV : Hid (SV true 0 ((w.alloc (.cells #[] 57)).alloc (.cells #[.int .i64 1, .int .i64 (sumS 5 (nextV f.stk).2 (topV f.stk).2)] 57)) (.slice (some ⟨(w.alloc (.cells #[] 57)).heap.size, 0, none⟩) ([(1, sumS 5 (nextV f.stk).2 (topV f.stk).2)]).length 1) ([(1, sumS 5 (nextV f.stk).2 (topV f.stk).2)])) := sv_one (Cells.new (w.alloc (.cells #[] 57)) _ rfl _ _)
      have HCA := l8Sum_at 5 (nextV f.stk).2 (topV f.stk).2 (by simp) hvn hvt (fun h => by simp at h) (w.alloc (.cells #[] 57))
      have HSU : Hid (Calls Try.prog 88 #[.int .i64 5, .int .i64 (nextV f.stk).2, .int .i64 (topV f.stk).2] (w.alloc (.cells #[] 57)) fun e w' => e = .returned (.int .i64 (sumS 5 (nextV f.stk).2 (topV f.stk).2)) ∧ (w.alloc (.cells #[] 57)) = w') := HCA
      clear HV HW HCA
      unfold c8
      conv => arg 2; whnf
      go_wp2_with fail
      refine HSU.out.mono ?_
      rintro e _ ⟨rfl, rfl⟩
      generalize sumS 5 (nextV f.stk).2 (topV f.stk).2 = su at *
      go_wp2_with (at_builtin; refine wpList_growV _ rfl (.tmp 201) (.tmp 210) rfl w.heap.size w.heap.size 0 [] (by simp [Act.eval]) HN2.out (by simp; omega) (some ⟨w.heap.size + 1, 0, none⟩) 1 0 [(1, su)] (by simp [Act.eval]) (by have := HSV.out; rw [World.size_alloc] at this; exact this) (by simp) ?_)
      intro g1 c1 w1 G1 B1 E1 O1
      have hX1 : Below w.heap.size w w1 := hB2.trans B1
      have HG1 : Hid (GrowV w.heap.size w1 (.slice (some ⟨g1, 0, none⟩) ([(1, su)] : List Vl).length c1) [(1, su)]) := by show GrowV _ _ _ _; simpa using G1
      clear G1 B1 E1 O1 HN2 HSV hB2
      go_wp2_with fail
      refine C.tail hX1 HG1.out.vz.sv (by simp) R ?_
      intro w' hM hb'
      exact HR.out w' (by simpa [takesS] using hM) hb'
    · have hbn : ((nextV f.stk).1 != 1) = true := by simp [hn]
      have hsi : stepI p m f own (5, A, Bi) = (m, 6) := by
        simp only [stepI]
        rw [if_neg C.step]
        simp [ht, hn]
      rw [hsi] at HR
      unfold c8
      conv => arg 2; whnf
      go_wp2_with fail
      exact HR.out _ (C.TW.on hX).st (hX.mono (Nat.le_trans C.hB C.b0.size))
  · have hbt : ((topV f.stk).1 != 1) = true := by simp [ht]
    have hsi : stepI p m f own (5, A, Bi) = (m, 6) := by
      simp only [stepI]
      rw [if_neg C.step]
      simp [ht]
    rw [hsi] at HR
    unfold c8
    conv => arg 2; whnf
    go_wp2_with fail
    exact HR.out _ (C.TW.on hX).st (hX.mono (Nat.le_trans C.hB C.b0.size))
set_option maxRecDepth 100000 in
set_option maxHeartbeats 4000000 in
theorem stepOp6 (C : StepC Bp p bp po cap B M m q f own 6 A Bi b2 b6 bi bt G fcap vS vL vh vs vA gc cc ch cf Th Tf w0 w) (R : Ending → World → Prop)
    (hR : ∀ w', MSt B M w' (stepI p m f own (6, A, Bi)).1 → Below B w w' → R (.returned (.int .i64 (stepI p m f own (6, A, Bi)).2)) w') (K : Act → World → Prop) (hK : ∀ a w', Code.wp Try.prog (c8 [true, true, true, true, true, true, true, true, true, true, true, true, true, true, true]) (bodyPost Try.prog Try.f56 R) a w' → K a w')
    {u0 u3 u4 u14 u15 u16 u17 u18 u19 u20 u21 u22 u23 u24 u25 u26 u27 u28 u29 u30 u31 u32 u33 u34 u35 u36 u37 u38 u39 u40 u41 u42 u43 u44 u45 u46 u47 u48 u49 u50 u51 u52 u53 u54 u55 u56 u57 u58 u59 u60 u61 u62 u63 u64 u65 u66 u67 u68 u69 u70 u71 u72 u73 u74 u75 u76 u77 u78 u79 u80 u81 u82 u83 u84 u85 u86 u87 u88 u89 u90 u91 u92 u93 u94 u95 u96 u97 u98 u99 u100 u101 u102 u103 u104 u105 u106 u107 u108 u109 u110 u111 u112 u113 u114 u115 u116 u117 u118 u119 u120 u121 u122 u123 u124 u125 u126 u127 u128 u129 u130 u131 u132 u133 u134 u135 u136 u137 u138 u139 u140 u141 u142 u143 u144 u145 u146 : Value} : Code.wp Try.prog (c8 [true, true, true, true, true, true, true, true, true, true, true, true, true, true, false]) (Exit.then K (bodyPost Try.prog Try.f56 R)) { tmps := #[u0, .pointer (some ⟨M, 0, none⟩), .pointer (some ⟨b2, 0, none⟩), u3, u4, .pointer (some ⟨G, q * 5, none⟩), .pointer (some ⟨b6, 0, none⟩), .pointer (some ⟨bi, 0, none⟩), .int .i64 (f.stk.length : Int), .int .i64 (takesS 6 : Int), .pointer (some ⟨bt, 0, none⟩), .pointer (some ⟨bt + 1, 0, none⟩), .slice (some ⟨w.heap.size, 0, none⟩) 0 0, undef, u14, u15, u16, u17, u18, u19, u20, u21, u22, u23, u24, u25, u26, u27, u28, u29, u30, u31, u32, u33, u34, u35, u36, u37, u38, u39, u40, u41, u42, u43, u44, u45, u46, u47, u48, u49, u50, u51, u52, u53, u54, u55, u56, u57, u58, u59, u60, u61, u62, u63, u64, u65, u66, u67, u68, u69, u70, u71, u72, u73, u74, u75, u76, u77, u78, u79, u80, u81, u82, u83, u84, u85, u86, u87, u88, u89, u90, u91, u92, u93, u94, u95, u96, u97, u98, u99, u100, u101, u102, u103, u104, u105, u106, u107, u108, u109, u110, u111, u112, u113, u114, u115, u116, u117, u118, u119, u120, u121, u122, u123, u124, u125, u126, u127, u128, u129, u130, u131, u132, u133, u134, u135, u136, u137, u138, u139, u140, u141, u142, u143, u144, u145, u146, undef, undef, undef, undef, undef, undef, undef, undef, undef, undef, undef, undef, undef, undef, undef, undef, undef, undef, undef, undef, undef, undef, undef, undef, undef, undef, undef, undef, undef, undef, undef, undef, undef, undef, undef, undef, undef, undef, undef, undef, undef, undef, undef, undef, undef, undef, undef, undef, undef, undef, undef, undef, undef, undef, undef, undef, undef, undef, undef, undef, undef, undef, undef, undef, undef, undef, undef, undef, undef, undef, undef, undef, undef, undef, undef, undef, undef, undef, undef, undef, undef, undef, undef, undef, undef, undef, undef, undef, undef, undef, undef, undef, undef, undef, undef, undef, undef, undef, undef, undef, undef, undef, undef, undef, undef, undef, undef, undef, undef, undef, undef, undef, undef, undef, undef, undef, undef, undef, undef, undef, undef, undef, undef, undef, undef, undef, undef, undef, undef, undef, undef, undef, undef, undef, undef, undef, undef, undef, undef, undef, undef, undef, undef, undef, undef, undef, undef, undef, undef, undef, undef, undef, undef, undef, undef, undef, undef, undef, undef, undef, undef, undef, undef, undef, undef, undef, undef, undef, undef, undef, undef, undef, undef, undef, undef, undef, undef, undef, undef, undef, undef, undef, undef, undef, undef, undef, undef, undef, undef, undef, undef, undef, undef, undef, undef, undef, undef, undef, undef, undef, undef, undef, undef, undef, undef, undef, undef, undef, undef, undef, undef, undef, undef, undef, undef, undef, undef, undef, undef, undef, undef, undef, undef, undef, undef, undef, undef, undef, undef, undef, undef, undef, undef, undef, undef, undef, undef, undef, undef, undef, undef, undef, undef, undef, undef, undef, undef, undef, undef, undef, undef, undef, undef, undef, undef, undef, undef, undef, undef, undef, undef, undef, undef, undef, undef, undef, undef, undef, undef, undef, undef, undef, undef, undef, undef, undef, undef, undef, undef, undef, undef, undef, undef, undef, undef, undef, undef, undef, undef, undef, undef, undef, undef, undef, undef, undef, undef, undef, undef, undef, undef, undef, undef, undef, undef, undef, undef, undef, undef, undef, undef, undef, undef, undef, undef, undef, undef, undef, undef, undef, undef, undef, undef, undef, undef, undef, undef, undef, undef, undef, undef, undef, undef, undef, undef, undef, undef, undef, undef, undef, undef, undef, undef, undef, undef, undef, undef, undef, undef, undef, undef, undef, undef, undef, undef, undef, undef, undef, undef, undef, undef, undef, undef, undef, undef, undef, undef, undef, undef, undef, undef, undef, undef, undef, undef, undef], defers := [] } (w.alloc (.cells #[] 57)) := by
  have hX : Below w.heap.size w (w.alloc (.cells #[] 57)) := (Below.refl _ _).alloc (Nat.le_refl _) _
  have ci := (C.CI.on hX).g0.1
  have ct0 := (C.CT.on hX).g0.1
  have ct1 := (C.CT.on hX).g1.1
  have cn0 := (C.CN.on hX).g0.1
  have cn1 := (C.CN.on hX).g1.1
  have HR : Hid (∀ w', MSt B M w' (stepI p m f own (6, A, Bi)).1 → Below B w w' → R (.returned (.int .i64 (stepI p m f own (6, A, Bi)).2)) w') := hR
  clear hR
  have hs2 : 2 ≤ f.stk.length := by have := C.nt; simpa [takesS] using this
  by_cases ht : (topV f.stk).1 = 1
  · rw [ht] at ct0
    by_cases hn : (nextV f.stk).1 = 1
    · rw [hn] at cn0
      have hvt : okB (topV f.stk).2 = true := by have := top_ok C.fok.sv (by omega); unfold valB at this; rw [if_pos ht] at this; exact this
      have hvn : okB (nextV f.stk).2 = true := by have := next_ok C.fok.sv hs2; unfold valB at this; rw [if_pos hn] at this; exact this
      have hsi : stepI p m f own (6, A, Bi) = onS m f 2 [(1, sumS 6 (nextV f.stk).2 (topV f.stk).2)] (f.pos + 1) := by
        simp only [stepI]
        rw [if_neg C.step]
        simp [ht, hn]
      rw [hsi] at HR
      have HW := hX
      have HV : Below (w.alloc (.cells #[] 57)).heap.size (w.alloc (.cells #[] 57)) ((w.alloc (.cells #[] 57)).alloc (.cells #[.int .i64 1, .int .i64 (sumS 6 (nextV f.stk).2 (topV f.stk).2)] 57)) := (Below.refl _ _).alloc (Nat.le_refl _) _
      have hB2 : Below w.heap.size w ((w.alloc (.cells #[] 57)).alloc (.cells #[.int .i64 1, .int .i64 (sumS 6 (nextV f.stk).2 (topV f.stk).2)] 57)) := HW.alloc HW.size _
      have HN2 : Hid (GrowV w.heap.size ((w.alloc (.cells #[] 57)).alloc (.cells #[.int .i64 1, .int .i64 (sumS 6 (nextV f.stk).2 (topV f.stk).2)] 57)) (.slice (some ⟨w.heap.size, 0, none⟩) ([] : List Vl).length 0) []) := (growV_nil w).on HV
      have HSV : Hid (SV true 0 ((w.alloc (.cells #[] 57)).alloc (.cells #[.int .i64 1, .int .i64 (sumS 6 (nextV f.stk).2 (topV f.stk).2)] 57)) (.slice (some ⟨(w.alloc (.cells #[] 57)).heap.size, 0, none⟩) ([(1, sumS 6 (nextV f.stk).2 (topV f.stk).2)]).length 1) ([(1, sumS 6 (nextV f.stk).2 (topV f.stk).2)])) := sv_one (Cells.new (w.alloc (.cells #[] 57)) _ rfl _ _)
      have HCA := l8Sum_at 6 (nextV f.stk).2 (topV f.stk).2 (by simp) hvn hvt (fun h => by simp at h) (w.alloc (.cells #[] 57))
      have HSU : Hid (Calls Try.prog 88 #[.int .i64 6, .int .i64 (nextV f.stk).2, .int .i64 (topV f.stk).2] (w.alloc (.cells #[] 57)) fun e w' => e = .returned (.int .i64 (sumS 6 (nextV f.stk).2 (topV f.stk).2)) ∧ (w.alloc (.cells #[] 57)) = w') := HCA
      clear HV HW HCA
      unfold c8
      conv => arg 2; whnf
      go_wp2_with fail
      refine HSU.out.mono ?_
      rintro e _ ⟨rfl, rfl⟩
      generalize sumS 6 (nextV f.stk).2 (topV f.stk).2 = su at *
      go_wp2_with (at_builtin; refine wpList_growV _ rfl (.tmp 201) (.tmp 210) rfl w.heap.size w.heap.size 0 [] (by simp [Act.eval]) HN2.out (by simp; omega) (some ⟨w.heap.size + 1, 0, none⟩) 1 0 [(1, su)] (by simp [Act.eval]) (by have := HSV.out; rw [World.size_alloc] at this; exact this) (by simp) ?_)
      intro g1 c1 w1 G1 B1 E1 O1
      have hX1 : Below w.heap.size w w1 := hB2.trans B1
      have HG1 : Hid (GrowV w.heap.size w1 (.slice (some ⟨g1, 0, none⟩) ([(1, su)] : List Vl).length c1) [(1, su)]) := by show GrowV _ _ _ _; simpa using G1
      clear G1 B1 E1 O1 HN2 HSV hB2
      go_wp2_with fail
      refine C.tail hX1 HG1.out.vz.sv (by simp) R ?_
      intro w' hM hb'
      exact HR.out w' (by simpa [takesS] using hM) hb'
    · have hbn : ((nextV f.stk).1 != 1) = true := by simp [hn]
      have hsi : stepI p m f own (6, A, Bi) = (m, 6) := by
        simp only [stepI]
        rw [if_neg C.step]
        simp [ht, hn]
      rw [hsi] at HR
      unfold c8
      conv => arg 2; whnf
      go_wp2_with fail
      exact HR.out _ (C.TW.on hX).st (hX.mono (Nat.le_trans C.hB C.b0.size))
  · have hbt : ((topV f.stk).1 != 1) = true := by simp [ht]
    have hsi : stepI p m f own (6, A, Bi) = (m, 6) := by
      simp only [stepI]
      rw [if_neg C.step]
      simp [ht]
    rw [hsi] at HR
    unfold c8
    conv => arg 2; whnf
    go_wp2_with fail
    exact HR.out _ (C.TW.on hX).st (hX.mono (Nat.le_trans C.hB C.b0.size))
set_option maxRecDepth 100000 in
set_option maxHeartbeats 4000000 in
theorem stepOp7 (C : StepC Bp p bp po cap B M m q f own 7 A Bi b2 b6 bi bt G fcap vS vL vh vs vA gc cc ch cf Th Tf w0 w) (R : Ending → World → Prop)
    (hR : ∀ w', MSt B M w' (stepI p m f own (7, A, Bi)).1 → Below B w w' → R (.returned (.int .i64 (stepI p m f own (7, A, Bi)).2)) w') (K : Act → World → Prop) (hK : ∀ a w', Code.wp Try.prog (c8 [true, true, true, true, true, true, true, true, true, true, true, true, true, true, true]) (bodyPost Try.prog Try.f56 R) a w' → K a w')
    {u0 u3 u4 u14 u15 u16 u17 u18 u19 u20 u21 u22 u23 u24 u25 u26 u27 u28 u29 u30 u31 u32 u33 u34 u35 u36 u37 u38 u39 u40 u41 u42 u43 u44 u45 u46 u47 u48 u49 u50 u51 u52 u53 u54 u55 u56 u57 u58 u59 u60 u61 u62 u63 u64 u65 u66 u67 u68 u69 u70 u71 u72 u73 u74 u75 u76 u77 u78 u79 u80 u81 u82 u83 u84 u85 u86 u87 u88 u89 u90 u91 u92 u93 u94 u95 u96 u97 u98 u99 u100 u101 u102 u103 u104 u105 u106 u107 u108 u109 u110 u111 u112 u113 u114 u115 u116 u117 u118 u119 u120 u121 u122 u123 u124 u125 u126 u127 u128 u129 u130 u131 u132 u133 u134 u135 u136 u137 u138 u139 u140 u141 u142 u143 u144 u145 u146 : Value} : Code.wp Try.prog (c8 [true, true, true, true, true, true, true, true, true, true, true, true, true, true, false]) (Exit.then K (bodyPost Try.prog Try.f56 R)) { tmps := #[u0, .pointer (some ⟨M, 0, none⟩), .pointer (some ⟨b2, 0, none⟩), u3, u4, .pointer (some ⟨G, q * 5, none⟩), .pointer (some ⟨b6, 0, none⟩), .pointer (some ⟨bi, 0, none⟩), .int .i64 (f.stk.length : Int), .int .i64 (takesS 7 : Int), .pointer (some ⟨bt, 0, none⟩), .pointer (some ⟨bt + 1, 0, none⟩), .slice (some ⟨w.heap.size, 0, none⟩) 0 0, undef, u14, u15, u16, u17, u18, u19, u20, u21, u22, u23, u24, u25, u26, u27, u28, u29, u30, u31, u32, u33, u34, u35, u36, u37, u38, u39, u40, u41, u42, u43, u44, u45, u46, u47, u48, u49, u50, u51, u52, u53, u54, u55, u56, u57, u58, u59, u60, u61, u62, u63, u64, u65, u66, u67, u68, u69, u70, u71, u72, u73, u74, u75, u76, u77, u78, u79, u80, u81, u82, u83, u84, u85, u86, u87, u88, u89, u90, u91, u92, u93, u94, u95, u96, u97, u98, u99, u100, u101, u102, u103, u104, u105, u106, u107, u108, u109, u110, u111, u112, u113, u114, u115, u116, u117, u118, u119, u120, u121, u122, u123, u124, u125, u126, u127, u128, u129, u130, u131, u132, u133, u134, u135, u136, u137, u138, u139, u140, u141, u142, u143, u144, u145, u146, undef, undef, undef, undef, undef, undef, undef, undef, undef, undef, undef, undef, undef, undef, undef, undef, undef, undef, undef, undef, undef, undef, undef, undef, undef, undef, undef, undef, undef, undef, undef, undef, undef, undef, undef, undef, undef, undef, undef, undef, undef, undef, undef, undef, undef, undef, undef, undef, undef, undef, undef, undef, undef, undef, undef, undef, undef, undef, undef, undef, undef, undef, undef, undef, undef, undef, undef, undef, undef, undef, undef, undef, undef, undef, undef, undef, undef, undef, undef, undef, undef, undef, undef, undef, undef, undef, undef, undef, undef, undef, undef, undef, undef, undef, undef, undef, undef, undef, undef, undef, undef, undef, undef, undef, undef, undef, undef, undef, undef, undef, undef, undef, undef, undef, undef, undef, undef, undef, undef, undef, undef, undef, undef, undef, undef, undef, undef, undef, undef, undef, undef, undef, undef, undef, undef, undef, undef, undef, undef, undef, undef, undef, undef, undef, undef, undef, undef, undef, undef, undef, undef, undef, undef, undef, undef, undef, undef, undef, undef, undef, undef, undef, undef, undef, undef, undef, undef, undef, undef, undef, undef, undef, undef, undef, undef, undef, undef, undef, undef, undef, undef, undef, undef, undef, undef, undef, undef, undef, undef, undef, undef, undef, undef, undef, undef, undef, undef, undef, undef, undef, undef, undef, undef, undef, undef, undef, undef, undef, undef, undef, undef, undef, undef, undef, undef, undef, undef, undef, undef, undef, undef, undef, undef, undef, undef, undef, undef, undef, undef, undef, undef, undef, undef, undef, undef, undef, undef, undef, undef, undef, undef, undef, undef, undef, undef, undef, undef, undef, undef, undef, undef, undef, undef, undef, undef, undef, undef, undef, undef, undef, undef, undef, undef, undef, undef, undef, undef, undef, undef, undef, undef, undef, undef, undef, undef, undef, undef, undef, undef, undef, undef, undef, undef, undef, undef, undef, undef, undef, undef, undef, undef, undef, undef, undef, undef, undef, undef, undef, undef, undef, undef, undef, undef, undef, undef, undef, undef, undef, undef, undef, undef, undef, undef, undef, undef, undef, undef, undef, undef, undef, undef, undef, undef, undef, undef, undef, undef, undef, undef, undef, undef, undef, undef, undef, undef, undef, undef, undef, undef, undef, undef, undef, undef, undef, undef, undef, undef, undef, undef, undef, undef, undef, undef, undef, undef, undef, undef, undef, undef, undef, undef, undef, undef, undef, undef, undef, undef, undef, undef, undef, undef, undef, undef, undef, undef, undef], defers := [] } (w.alloc (.cells #[] 57)) := by
  have hX : Below w.heap.size w (w.alloc (.cells #[] 57)) := (Below.refl _ _).alloc (Nat.le_refl _) _
  have ci := (C.CI.on hX).g0.1
  have ct0 := (C.CT.on hX).g0.1
  have ct1 := (C.CT.on hX).g1.1
  have cn0 := (C.CN.on hX).g0.1
  have cn1 := (C.CN.on hX).g1.1
  have HR : Hid (∀ w', MSt B M w' (stepI p m f own (7, A, Bi)).1 → Below B w w' → R (.returned (.int .i64 (stepI p m f own (7, A, Bi)).2)) w') := hR
  clear hR
  have hs2 : 2 ≤ f.stk.length := by have := C.nt; simpa [takesS] using this
  by_cases ht : (topV f.stk).1 = 1
  · rw [ht] at ct0
    by_cases hn : (nextV f.stk).1 = 1
    · rw [hn] at cn0
      have hvt : okB (topV f.stk).2 = true := by have := top_ok C.fok.sv (by omega); unfold valB at this; rw [if_pos ht] at this; exact this
      have hvn : okB (nextV f.stk).2 = true := by have := next_ok C.fok.sv hs2; unfold valB at this; rw [if_pos hn] at this; exact this
      by_cases h0 : (topV f.stk).2 = 0
      · rw [h0] at ct1
        have hsi : stepI p m f own (7, A, Bi) = (m, 2) := by
          simp only [stepI]
          rw [if_neg C.step]
          simp [ht, hn, h0]
        rw [hsi] at HR
        unfold c8
        conv => arg 2; whnf
        go_wp2_with fail
        exact HR.out _ (C.TW.on hX).st (hX.mono (Nat.le_trans C.hB C.b0.size))
      · have hz : ((topV f.stk).2 == 0) = false := by simp [h0]
        have hsi : stepI p m f own (7, A, Bi) = onS m f 2 [(1, sumS 7 (nextV f.stk).2 (topV f.stk).2)] (f.pos + 1) := by
          simp only [stepI]
          rw [if_neg C.step]
          simp [ht, hn, h0]
        rw [hsi] at HR
        have HW := hX
        have HV : Below (w.alloc (.cells #[] 57)).heap.size (w.alloc (.cells #[] 57)) ((w.alloc (.cells #[] 57)).alloc (.cells #[.int .i64 1, .int .i64 (sumS 7 (nextV f.stk).2 (topV f.stk).2)] 57)) := (Below.refl _ _).alloc (Nat.le_refl _) _
        have hB2 : Below w.heap.size w ((w.alloc (.cells #[] 57)).alloc (.cells #[.int .i64 1, .int .i64 (sumS 7 (nextV f.stk).2 (topV f.stk).2)] 57)) := HW.alloc HW.size _
        have HN2 : Hid (GrowV w.heap.size ((w.alloc (.cells #[] 57)).alloc (.cells #[.int .i64 1, .int .i64 (sumS 7 (nextV f.stk).2 (topV f.stk).2)] 57)) (.slice (some ⟨w.heap.size, 0, none⟩) ([] : List Vl).length 0) []) := (growV_nil w).on HV
        have HSV : Hid (SV true 0 ((w.alloc (.cells #[] 57)).alloc (.cells #[.int .i64 1, .int .i64 (sumS 7 (nextV f.stk).2 (topV f.stk).2)] 57)) (.slice (some ⟨(w.alloc (.cells #[] 57)).heap.size, 0, none⟩) ([(1, sumS 7 (nextV f.stk).2 (topV f.stk).2)]).length 1) ([(1, sumS 7 (nextV f.stk).2 (topV f.stk).2)])) := sv_one (Cells.new (w.alloc (.cells #[] 57)) _ rfl _ _)
        have HCA := l8Sum_at 7 (nextV f.stk).2 (topV f.stk).2 (by simp) hvn hvt (fun _ => h0) (w.alloc (.cells #[] 57))
        have HSU : Hid (Calls Try.prog 88 #[.int .i64 7, .int .i64 (nextV f.stk).2, .int .i64 (topV f.stk).2] (w.alloc (.cells #[] 57)) fun e w' => e = .returned (.int .i64 (sumS 7 (nextV f.stk).2 (topV f.stk).2)) ∧ (w.alloc (.cells #[] 57)) = w') := HCA
        clear HV HW HCA
        unfold c8
        conv => arg 2; whnf
        go_wp2_with fail
        refine HSU.out.mono ?_
        rintro e _ ⟨rfl, rfl⟩
        generalize sumS 7 (nextV f.stk).2 (topV f.stk).2 = su at *
        go_wp2_with (at_builtin; refine wpList_growV _ rfl (.tmp 201) (.tmp 210) rfl w.heap.size w.heap.size 0 [] (by simp [Act.eval]) HN2.out (by simp; omega) (some ⟨w.heap.size + 1, 0, none⟩) 1 0 [(1, su)] (by simp [Act.eval]) (by have := HSV.out; rw [World.size_alloc] at this; exact this) (by simp) ?_)
        intro g1 c1 w1 G1 B1 E1 O1
        have hX1 : Below w.heap.size w w1 := hB2.trans B1
        have HG1 : Hid (GrowV w.heap.size w1 (.slice (some ⟨g1, 0, none⟩) ([(1, su)] : List Vl).length c1) [(1, su)]) := by show GrowV _ _ _ _; simpa using G1
        clear G1 B1 E1 O1 HN2 HSV hB2
        go_wp2_with fail
        refine C.tail hX1 HG1.out.vz.sv (by simp) R ?_
        intro w' hM hb'
        exact HR.out w' (by simpa [takesS] using hM) hb'
    · have hbn : ((nextV f.stk).1 != 1) = true := by simp [hn]
      have hsi : stepI p m f own (7, A, Bi) = (m, 6) := by
        simp only [stepI]
        rw [if_neg C.step]
        simp [ht, hn]
      rw [hsi] at HR
      unfold c8
      conv => arg 2; whnf
      go_wp2_with fail
      exact HR.out _ (C.TW.on hX).st (hX.mono (Nat.le_trans C.hB C.b0.size))
  · have hbt : ((topV f.stk).1 != 1) = true := by simp [ht]
    have hsi : stepI p m f own (7, A, Bi) = (m, 6) := by
      simp only [stepI]
      rw [if_neg C.step]
      simp [ht]
    rw [hsi] at HR
    unfold c8
    conv => arg 2; whnf
    go_wp2_with fail
    exact HR.out _ (C.TW.on hX).st (hX.mono (Nat.le_trans C.hB C.b0.size))
end Pg
end Go.Proofs.Ytffkkhaiedhaiaa

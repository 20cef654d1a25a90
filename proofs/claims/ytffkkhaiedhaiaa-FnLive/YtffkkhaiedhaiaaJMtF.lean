/- The step, op by op: 20. -/
import Derived.Test.YtffkkhaiedhaiaaJMc0
namespace Go.Proofs.Ytffkkhaiedhaiaa
namespace Pg
open Go.ChangeShapes Go.WideShapes Go.ChangeAt Go.RowKit St Wd

variable {Bp : Nat} {p : Prg} {bp po cap B M : Nat} {m : Mc} {q : Nat} {f : Fr} {own : Meth} {op A Bi : Int} {b2 b6 bi bt G fcap : Nat} {vS vL vh vs vA : Value} {gc cc : Nat} {ch cf : List (List Value)} {Th Tf : Nat → Nat → Nat → Prop} {w0 w : World}
theorem valRefS {v : Vl} (h : valB v = true) : v.1 = 2 → 0 ≤ v.2 := fun e => by
  unfold valB at h
  rw [if_neg (by omega), if_pos e] at h
  simpa using h
set_option maxRecDepth 100000 in
set_option maxHeartbeats 4000000 in
theorem stepOp20 (C : StepC Bp p bp po cap B M m q f own 20 A Bi b2 b6 bi bt G fcap vS vL vh vs vA gc cc ch cf Th Tf w0 w) (R : Ending → World → Prop)
    (hR : ∀ w', MSt B M w' (stepI p m f own (20, A, Bi)).1 → Below B w w' → R (.returned (.int .i64 (stepI p m f own (20, A, Bi)).2)) w') (K : Act → World → Prop) (_hK : ∀ a w', Code.wp Try.prog (c8 [true, true, true, true, true, true, true, true, true, true, true, true, true, true, true]) (bodyPost Try.prog Try.f56 R) a w' → K a w')
    {u0 u3 u4 u14 u15 u16 u17 u18 u19 u20 u21 u22 u23 u24 u25 u26 u27 u28 u29 u30 u31 u32 u33 u34 u35 u36 u37 u38 u39 u40 u41 u42 u43 u44 u45 u46 u47 u48 u49 u50 u51 u52 u53 u54 u55 u56 u57 u58 u59 u60 u61 u62 u63 u64 u65 u66 u67 u68 u69 u70 u71 u72 u73 u74 u75 u76 u77 u78 u79 u80 u81 u82 u83 u84 u85 u86 u87 u88 u89 u90 u91 u92 u93 u94 u95 u96 u97 u98 u99 u100 u101 u102 u103 u104 u105 u106 u107 u108 u109 u110 u111 u112 u113 u114 u115 u116 u117 u118 u119 u120 u121 u122 u123 u124 u125 u126 u127 u128 u129 u130 u131 u132 u133 u134 u135 u136 u137 u138 u139 u140 u141 u142 u143 u144 u145 u146 : Value} : Code.wp Try.prog (c8 [true, true, true, true, true, true, true, true, true, true, true, true, true, true, false]) (Exit.then K (bodyPost Try.prog Try.f56 R)) { tmps := #[u0, .pointer (some ⟨M, 0, none⟩), .pointer (some ⟨b2, 0, none⟩), u3, u4, .pointer (some ⟨G, q * 5, none⟩), .pointer (some ⟨b6, 0, none⟩), .pointer (some ⟨bi, 0, none⟩), .int .i64 (f.stk.length : Int), .int .i64 (takesS 20 : Int), .pointer (some ⟨bt, 0, none⟩), .pointer (some ⟨bt + 1, 0, none⟩), .slice (some ⟨w.heap.size, 0, none⟩) 0 0, undef, u14, u15, u16, u17, u18, u19, u20, u21, u22, u23, u24, u25, u26, u27, u28, u29, u30, u31, u32, u33, u34, u35, u36, u37, u38, u39, u40, u41, u42, u43, u44, u45, u46, u47, u48, u49, u50, u51, u52, u53, u54, u55, u56, u57, u58, u59, u60, u61, u62, u63, u64, u65, u66, u67, u68, u69, u70, u71, u72, u73, u74, u75, u76, u77, u78, u79, u80, u81, u82, u83, u84, u85, u86, u87, u88, u89, u90, u91, u92, u93, u94, u95, u96, u97, u98, u99, u100, u101, u102, u103, u104, u105, u106, u107, u108, u109, u110, u111, u112, u113, u114, u115, u116, u117, u118, u119, u120, u121, u122, u123, u124, u125, u126, u127, u128, u129, u130, u131, u132, u133, u134, u135, u136, u137, u138, u139, u140, u141, u142, u143, u144, u145, u146, undef, undef, undef, undef, undef, undef, undef, undef, undef, undef, undef, undef, undef, undef, undef, undef, undef, undef, undef, undef, undef, undef, undef, undef, undef, undef, undef, undef, undef, undef, undef, undef, undef, undef, undef, undef, undef, undef, undef, undef, undef, undef, undef, undef, undef, undef, undef, undef, undef, undef, undef, undef, undef, undef, undef, undef, undef, undef, undef, undef, undef, undef, undef, undef, undef, undef, undef, undef, undef, undef, undef, undef, undef, undef, undef, undef, undef, undef, undef, undef, undef, undef, undef, undef, undef, undef, undef, undef, undef, undef, undef, undef, undef, undef, undef, undef, undef, undef, undef, undef, undef, undef, undef, undef, undef, undef, undef, undef, undef, undef, undef, undef, undef, undef, undef, undef, undef, undef, undef, undef, undef, undef, undef, undef, undef, undef, undef, undef, undef, undef, undef, undef, undef, undef, undef, undef, undef, undef, undef, undef, undef, undef, undef, undef, undef, undef, undef, undef, undef, undef, undef, undef, undef, undef, undef, undef, undef, undef, undef, undef, undef, undef, undef, undef, undef, undef, undef, undef, undef, undef, undef, undef, undef, undef, undef, undef, undef, undef, undef, undef, undef, undef, undef, undef, undef, undef, undef, undef, undef, undef, undef, undef, undef, undef, undef, undef, undef, undef, undef, undef, undef, undef, undef, undef, undef, undef, undef, undef, undef, undef, undef, undef, undef, undef, undef, undef, undef, undef, undef, undef, undef, undef, undef, undef, undef, undef, undef, undef, undef, undef, undef, undef, undef, undef, undef, undef, undef, undef, undef, undef, undef, undef, undef, undef, undef, undef, undef, undef, undef, undef, undef, undef, undef, undef, undef, undef, undef, undef, undef, undef, undef, undef, undef, undef, undef, undef, undef, undef, undef, undef, undef, undef, undef, undef, undef, undef, undef, undef, undef, undef, undef, undef, undef, undef, undef, undef, undef, undef, undef, undef, undef, undef, undef, undef, undef, undef, undef, undef, undef, undef, undef, undef, undef, undef, undef, undef, undef, undef, undef, undef, undef, undef, undef, undef, undef, undef, undef, undef, undef, undef, undef, undef, undef, undef, undef, undef, undef, undef, undef, undef, undef, undef, undef, undef, undef, undef, undef, undef, undef, undef, undef, undef, undef, undef, undef, undef, undef, undef, undef, undef, undef, undef, undef, undef, undef, undef, undef, undef, undef, undef, undef, undef, undef, undef, undef, undef, undef, undef, undef, undef, undef, undef, undef, undef, undef, undef], defers := [] } (w.alloc (.cells #[] 57)) := by
  have hX : Below w.heap.size w (w.alloc (.cells #[] 57)) := (Below.refl _ _).alloc (Nat.le_refl _) _
  have ci := (C.CI.on hX).g0.1
  have ct0 := (C.CT.on hX).g0.1
  have ct1 := (C.CT.on hX).g1.1
  have p0 := (C.P2.on hX).g0.1
  have c62 := (C.C6.on hX).g2.1
  have HR : Hid (∀ w', MSt B M w' (stepI p m f own (20, A, Bi)).1 → Below B w w' → R (.returned (.int .i64 (stepI p m f own (20, A, Bi)).2)) w') := hR
  clear hR
  have hs1 : 1 ≤ f.stk.length := by have := C.nt; simpa [takesS] using this
  obtain ⟨ah, ch', rfl⟩ := own_any C.T.own.h.own
  have HIS : Hid (Calls Try.prog 91 #[.agg #[.slice (some ⟨bp, po, none⟩) p.length cap], .pointer (some ⟨M, 0, none⟩), .agg #[.int .i64 (topV f.stk).1, .int .i64 (topV f.stk).2], .int .i64 own.gives] (w.alloc (.cells #[] 57)) fun e w' => e = .returned (.bool (isS p m.heap (topV f.stk) own.gives)) ∧ Below (w.alloc (.cells #[] 57)).heap.size (w.alloc (.cells #[] 57)) w') :=
    l8Is_at Bp 0 p (some ⟨bp, po, none⟩) cap C.ok m.heap M ah ch' (topV f.stk) (valRefS (top_ok C.fok.sv hs1)) own.gives (w.alloc (.cells #[] 57)) (SK.on C.skw (Keep.of hX)) (C.TW.on hX).cells.g0.1 (C.TW.on hX).own.h.so
  unfold c8
  conv => arg 2; whnf
  go_wp2_with fail
  refine HIS.out.mono ?_
  rintro e w1 ⟨rfl, hb1⟩
  have hX1 : Below w.heap.size w w1 := below_over hX hb1
  clear HIS hb1 ct0 ct1 p0 c62 ci
  cases hi : isS p m.heap (topV f.stk) own.gives
  · have hsi : stepI p m f own (20, A, Bi) = (m, 6) := by
      simp only [stepI]
      rw [if_neg C.step]
      simp [hi]
    rw [hsi] at HR
    clear hi
    go_wp2_with fail
    exact HR.out _ (C.TW.on hX1).st (hX1.mono (Nat.le_trans C.hB C.b0.size))
  · have hsi : stepI p m f own (20, A, Bi) = giveS m (topV f.stk) := by
      simp only [stepI]
      rw [if_neg C.step]
      simp [hi]
    rw [hsi] at HR
    have ct0 := (C.CT.on hX1).g0.1
    have ct1 := (C.CT.on hX1).g1.1
    have HGI : Hid (Calls Try.prog 93 #[.pointer (some ⟨M, 0, none⟩), .agg #[.int .i64 (topV f.stk).1, .int .i64 (topV f.stk).2]] w1 fun e w' => e = .returned (.int .i64 (giveS m (topV f.stk)).2) ∧ MSt B M w' (giveS m (topV f.stk)).1 ∧ Below B w1 w') :=
      l8Give_at B M m (topV f.stk) w1 (Nat.le_trans (Nat.le_trans C.hB C.b0.size) hX1.size) (C.TW.on hX1).st (by have := C.hq; omega) C.core.f30 (fun g hg => (C.core.fr g hg).s8) (fun g hg => by have := C.poss g hg; omega)
    clear hi
    go_wp2_with fail
    refine HGI.out.mono ?_
    rintro e w2 ⟨rfl, hM2, hb2⟩
    have HM2 : Hid (MSt B M w2 (giveS m (topV f.stk)).1) := hM2
    clear hM2 HGI ct0 ct1
    go_wp2_with fail
    exact HR.out _ HM2.out ((hX1.mono (Nat.le_trans C.hB C.b0.size)).trans hb2)
end Pg
end Go.Proofs.Ytffkkhaiedhaiaa

/- The step, op by op: 17, out of what l8Call does; and the switch as a whole. -/
import Derived.Test.YtffkkhaiedhaiaaJMtH
import Derived.Test.YtffkkhaiedhaiaaJMtB
import Derived.Test.YtffkkhaiedhaiaaJMtE
import Derived.Test.YtffkkhaiedhaiaaJMc3
import Derived.Test.YtffkkhaiedhaiaaJPs1
namespace Go.Proofs.Ytffkkhaiedhaiaa
namespace Pg
open Go.ChangeShapes Go.WideShapes Go.ChangeAt Go.RowKit St Wd

variable {Bp : Nat} {p : Prg} {bp po cap B M : Nat} {m : Mc} {q : Nat} {f : Fr} {own : Meth} {op A Bi : Int} {b2 b6 bi bt G fcap : Nat} {vS vL vh vs vA : Value} {gc cc : Nat} {ch cf : List (List Value)} {Th Tf : Nat → Nat → Nat → Prop} {w0 w : World}
/-- What the specification's call does, in memory. -/
def CallOk (Bp : Nat) (p : Prg) (bp po cap B M : Nat) (m : Mc) (f : Fr) : Prop := ∀ (A Bi : Int) (W : World), Tx.okI 17 A Bi = true → B ≤ W.heap.size → MSt B M W m → SK front Bp W (.slice (some ⟨bp, po, none⟩) p.length cap) p →
  Calls Try.prog 92 #[.agg #[.slice (some ⟨bp, po, none⟩) p.length cap], .pointer (some ⟨M, 0, none⟩), .agg #[.int .i64 17, .int .i64 A, .int .i64 Bi]] W fun e w' => e = .returned (.int .i64 (callS p m f A Bi).2) ∧ MSt B M w' (callS p m f A Bi).1 ∧ Below B W w'
set_option maxRecDepth 100000 in
set_option maxHeartbeats 4000000 in
theorem stepOp17 (C : StepC Bp p bp po cap B M m q f own 17 A Bi b2 b6 bi bt G fcap vS vL vh vs vA gc cc ch cf Th Tf w0 w) (hC : CallOk Bp p bp po cap B M m f) (R : Ending → World → Prop)
    (hR : ∀ w', MSt B M w' (stepI p m f own (17, A, Bi)).1 → Below B w w' → R (.returned (.int .i64 (stepI p m f own (17, A, Bi)).2)) w') (K : Act → World → Prop) (_hK : ∀ a w', Code.wp Try.prog (c8 [true, true, true, true, true, true, true, true, true, true, true, true, true, true, true]) (bodyPost Try.prog Try.f56 R) a w' → K a w')
    {u0 u3 u4 u14 u15 u16 u17 u18 u19 u20 u21 u22 u23 u24 u25 u26 u27 u28 u29 u30 u31 u32 u33 u34 u35 u36 u37 u38 u39 u40 u41 u42 u43 u44 u45 u46 u47 u48 u49 u50 u51 u52 u53 u54 u55 u56 u57 u58 u59 u60 u61 u62 u63 u64 u65 u66 u67 u68 u69 u70 u71 u72 u73 u74 u75 u76 u77 u78 u79 u80 u81 u82 u83 u84 u85 u86 u87 u88 u89 u90 u91 u92 u93 u94 u95 u96 u97 u98 u99 u100 u101 u102 u103 u104 u105 u106 u107 u108 u109 u110 u111 u112 u113 u114 u115 u116 u117 u118 u119 u120 u121 u122 u123 u124 u125 u126 u127 u128 u129 u130 u131 u132 u133 u134 u135 u136 u137 u138 u139 u140 u141 u142 u143 u144 u145 u146 : Value} : Code.wp Try.prog (c8 [true, true, true, true, true, true, true, true, true, true, true, true, true, true, false]) (Exit.then K (bodyPost Try.prog Try.f56 R)) { tmps := #[u0, .pointer (some ⟨M, 0, none⟩), .pointer (some ⟨b2, 0, none⟩), u3, u4, .pointer (some ⟨G, q * 5, none⟩), .pointer (some ⟨b6, 0, none⟩), .pointer (some ⟨bi, 0, none⟩), .int .i64 (f.stk.length : Int), .int .i64 (takesS 17 : Int), .pointer (some ⟨bt, 0, none⟩), .pointer (some ⟨bt + 1, 0, none⟩), .slice (some ⟨w.heap.size, 0, none⟩) 0 0, undef, u14, u15, u16, u17, u18, u19, u20, u21, u22, u23, u24, u25, u26, u27, u28, u29, u30, u31, u32, u33, u34, u35, u36, u37, u38, u39, u40, u41, u42, u43, u44, u45, u46, u47, u48, u49, u50, u51, u52, u53, u54, u55, u56, u57, u58, u59, u60, u61, u62, u63, u64, u65, u66, u67, u68, u69, u70, u71, u72, u73, u74, u75, u76, u77, u78, u79, u80, u81, u82, u83, u84, u85, u86, u87, u88, u89, u90, u91, u92, u93, u94, u95, u96, u97, u98, u99, u100, u101, u102, u103, u104, u105, u106, u107, u108, u109, u110, u111, u112, u113, u114, u115, u116, u117, u118, u119, u120, u121, u122, u123, u124, u125, u126, u127, u128, u129, u130, u131, u132, u133, u134, u135, u136, u137, u138, u139, u140, u141, u142, u143, u144, u145, u146, undef, undef, undef, undef, undef, undef, undef, undef, undef, undef, undef, undef, undef, undef, undef, undef, undef, undef, undef, undef, undef, undef, undef, undef, undef, undef, undef, undef, undef, undef, undef, undef, undef, undef, undef, undef, undef, undef, undef, undef, undef, undef, undef, undef, undef, undef, undef, undef, undef, undef, undef, undef, undef, undef, undef, undef, undef, undef, undef, undef, undef, undef, undef, undef, undef, undef, undef, undef, undef, undef, undef, undef, undef, undef, undef, undef, undef, undef, undef, undef, undef, undef, undef, undef, undef, undef, undef, undef, undef, undef, undef, undef, undef, undef, undef, undef, undef, undef, undef, undef, undef, undef, undef, undef, undef, undef, undef, undef, undef, undef, undef, undef, undef, undef, undef, undef, undef, undef, undef, undef, undef, undef, undef, undef, undef, undef, undef, undef, undef, undef, undef, undef, undef, undef, undef, undef, undef, undef, undef, undef, undef, undef, undef, undef, undef, undef, undef, undef, undef, undef, undef, undef, undef, undef, undef, undef, undef, undef, undef, undef, undef, undef, undef, undef, undef, undef, undef, undef, undef, undef, undef, undef, undef, undef, undef, undef, undef, undef, undef, undef, undef, undef, undef, undef, undef, undef, undef, undef, undef, undef, undef, undef, undef, undef, undef, undef, undef, undef, undef, undef, undef, undef, undef, undef, undef, undef, undef, undef, undef, undef, undef, undef, undef, undef, undef, undef, undef, undef, undef, undef, undef, undef, undef, undef, undef, undef, undef, undef, undef, undef, undef, undef, undef, undef, undef, undef, undef, undef, undef, undef, undef, undef, undef, undef, undef, undef, undef, undef, undef, undef, undef, undef, undef, undef, undef, undef, undef, undef, undef, undef, undef, undef, undef, undef, undef, undef, undef, undef, undef, undef, undef, undef, undef, undef, undef, undef, undef, undef, undef, undef, undef, undef, undef, undef, undef, undef, undef, undef, undef, undef, undef, undef, undef, undef, undef, undef, undef, undef, undef, undef, undef, undef, undef, undef, undef, undef, undef, undef, undef, undef, undef, undef, undef, undef, undef, undef, undef, undef, undef, undef, undef, undef, undef, undef, undef, undef, undef, undef, undef, undef, undef, undef, undef, undef, undef, undef, undef, undef, undef, undef, undef, undef, undef, undef, undef, undef, undef, undef, undef, undef, undef, undef, undef, undef, undef, undef, undef, undef, undef, undef, undef, undef, undef, undef, undef, undef, undef, undef, undef, undef, undef, undef, undef, undef, undef, undef], defers := [] } (w.alloc (.cells #[] 57)) := by
  have hX : Below w.heap.size w (w.alloc (.cells #[] 57)) := (Below.refl _ _).alloc (Nat.le_refl _) _
  have ci := (C.CI.on hX).g0.1
  have p0 := (C.P2.on hX).g0.1
  have ci1 := (C.CI.on hX).g1.1
  have ci2 := (C.CI.on hX).g2.1
  have HR : Hid (∀ w', MSt B M w' (stepI p m f own (17, A, Bi)).1 → Below B w w' → R (.returned (.int .i64 (stepI p m f own (17, A, Bi)).2)) w') := hR
  clear hR
  have hsi : stepI p m f own (17, A, Bi) = callS p m f A Bi := by
    simp only [stepI]
    rw [if_neg C.step]
    simp
  rw [hsi] at HR
  have HCA : Hid (Calls Try.prog 92 #[.agg #[.slice (some ⟨bp, po, none⟩) p.length cap], .pointer (some ⟨M, 0, none⟩), .agg #[.int .i64 17, .int .i64 A, .int .i64 Bi]] (w.alloc (.cells #[] 57)) fun e w' => e = .returned (.int .i64 (callS p m f A Bi).2) ∧ MSt B M w' (callS p m f A Bi).1 ∧ Below B (w.alloc (.cells #[] 57)) w') :=
    hC A Bi (w.alloc (.cells #[] 57)) C.okI (Nat.le_trans (Nat.le_trans C.hB C.b0.size) hX.size) (C.TW.on hX).st (SK.on C.skw (Keep.of hX))
  unfold c8
  conv => arg 2; whnf
  go_wp2_with fail
  refine HCA.out.mono ?_
  rintro e w1 ⟨rfl, hM1, hb1⟩
  have HM1 : Hid (MSt B M w1 (callS p m f A Bi).1) := hM1
  clear hM1 HCA p0 ci ci1 ci2 hsi
  go_wp2_with fail
  exact HR.out _ HM1.out ((hX.mono (Nat.le_trans C.hB C.b0.size)).trans hb1)
set_option maxRecDepth 100000 in
theorem stepSwitch (C : StepC Bp p bp po cap B M m q f own op A Bi b2 b6 bi bt G fcap vS vL vh vs vA gc cc ch cf Th Tf w0 w) (hC : CallOk Bp p bp po cap B M m f) (R : Ending → World → Prop)
    (hR : ∀ w', MSt B M w' (stepI p m f own (op, A, Bi)).1 → Below B w w' → R (.returned (.int .i64 (stepI p m f own (op, A, Bi)).2)) w') (K : Act → World → Prop) (hK : ∀ a w', Code.wp Try.prog (c8 [true, true, true, true, true, true, true, true, true, true, true, true, true, true, true]) (bodyPost Try.prog Try.f56 R) a w' → K a w')
    {u0 u3 u4 u14 u15 u16 u17 u18 u19 u20 u21 u22 u23 u24 u25 u26 u27 u28 u29 u30 u31 u32 u33 u34 u35 u36 u37 u38 u39 u40 u41 u42 u43 u44 u45 u46 u47 u48 u49 u50 u51 u52 u53 u54 u55 u56 u57 u58 u59 u60 u61 u62 u63 u64 u65 u66 u67 u68 u69 u70 u71 u72 u73 u74 u75 u76 u77 u78 u79 u80 u81 u82 u83 u84 u85 u86 u87 u88 u89 u90 u91 u92 u93 u94 u95 u96 u97 u98 u99 u100 u101 u102 u103 u104 u105 u106 u107 u108 u109 u110 u111 u112 u113 u114 u115 u116 u117 u118 u119 u120 u121 u122 u123 u124 u125 u126 u127 u128 u129 u130 u131 u132 u133 u134 u135 u136 u137 u138 u139 u140 u141 u142 u143 u144 u145 u146 : Value} : Code.wp Try.prog (c8 [true, true, true, true, true, true, true, true, true, true, true, true, true, true, false]) (Exit.then K (bodyPost Try.prog Try.f56 R)) { tmps := #[u0, .pointer (some ⟨M, 0, none⟩), .pointer (some ⟨b2, 0, none⟩), u3, u4, .pointer (some ⟨G, q * 5, none⟩), .pointer (some ⟨b6, 0, none⟩), .pointer (some ⟨bi, 0, none⟩), .int .i64 (f.stk.length : Int), .int .i64 (takesS op : Int), .pointer (some ⟨bt, 0, none⟩), .pointer (some ⟨bt + 1, 0, none⟩), .slice (some ⟨w.heap.size, 0, none⟩) 0 0, undef, u14, u15, u16, u17, u18, u19, u20, u21, u22, u23, u24, u25, u26, u27, u28, u29, u30, u31, u32, u33, u34, u35, u36, u37, u38, u39, u40, u41, u42, u43, u44, u45, u46, u47, u48, u49, u50, u51, u52, u53, u54, u55, u56, u57, u58, u59, u60, u61, u62, u63, u64, u65, u66, u67, u68, u69, u70, u71, u72, u73, u74, u75, u76, u77, u78, u79, u80, u81, u82, u83, u84, u85, u86, u87, u88, u89, u90, u91, u92, u93, u94, u95, u96, u97, u98, u99, u100, u101, u102, u103, u104, u105, u106, u107, u108, u109, u110, u111, u112, u113, u114, u115, u116, u117, u118, u119, u120, u121, u122, u123, u124, u125, u126, u127, u128, u129, u130, u131, u132, u133, u134, u135, u136, u137, u138, u139, u140, u141, u142, u143, u144, u145, u146, undef, undef, undef, undef, undef, undef, undef, undef, undef, undef, undef, undef, undef, undef, undef, undef, undef, undef, undef, undef, undef, undef, undef, undef, undef, undef, undef, undef, undef, undef, undef, undef, undef, undef, undef, undef, undef, undef, undef, undef, undef, undef, undef, undef, undef, undef, undef, undef, undef, undef, undef, undef, undef, undef, undef, undef, undef, undef, undef, undef, undef, undef, undef, undef, undef, undef, undef, undef, undef, undef, undef, undef, undef, undef, undef, undef, undef, undef, undef, undef, undef, undef, undef, undef, undef, undef, undef, undef, undef, undef, undef, undef, undef, undef, undef, undef, undef, undef, undef, undef, undef, undef, undef, undef, undef, undef, undef, undef, undef, undef, undef, undef, undef, undef, undef, undef, undef, undef, undef, undef, undef, undef, undef, undef, undef, undef, undef, undef, undef, undef, undef, undef, undef, undef, undef, undef, undef, undef, undef, undef, undef, undef, undef, undef, undef, undef, undef, undef, undef, undef, undef, undef, undef, undef, undef, undef, undef, undef, undef, undef, undef, undef, undef, undef, undef, undef, undef, undef, undef, undef, undef, undef, undef, undef, undef, undef, undef, undef, undef, undef, undef, undef, undef, undef, undef, undef, undef, undef, undef, undef, undef, undef, undef, undef, undef, undef, undef, undef, undef, undef, undef, undef, undef, undef, undef, undef, undef, undef, undef, undef, undef, undef, undef, undef, undef, undef, undef, undef, undef, undef, undef, undef, undef, undef, undef, undef, undef, undef, undef, undef, undef, undef, undef, undef, undef, undef, undef, undef, undef, undef, undef, undef, undef, undef, undef, undef, undef, undef, undef, undef, undef, undef, undef, undef, undef, undef, undef, undef, undef, undef, undef, undef, undef, undef, undef, undef, undef, undef, undef, undef, undef, undef, undef, undef, undef, undef, undef, undef, undef, undef, undef, undef, undef, undef, undef, undef, undef, undef, undef, undef, undef, undef, undef, undef, undef, undef, undef, undef, undef, undef, undef, undef, undef, undef, undef, undef, undef, undef, undef, undef, undef, undef, undef, undef, undef, undef, undef, undef, undef, undef, undef, undef, undef, undef, undef, undef, undef, undef, undef, undef, undef, undef, undef, undef, undef, undef, undef, undef, undef, undef, undef, undef, undef, undef, undef, undef, undef, undef, undef, undef, undef, undef, undef, undef, undef, undef, undef, undef, undef, undef, undef, undef, undef, undef, undef, undef, undef, undef, undef, undef, undef, undef, undef, undef, undef, undef], defers := [] } (w.alloc (.cells #[] 57)) := by
  obtain ⟨h1, h2⟩ := Tx.ok_op C.okI
  rcases op_twenty h1 h2 with rfl | rfl | rfl | rfl | rfl | rfl | rfl | rfl | rfl | rfl | rfl | rfl | rfl | rfl | rfl | rfl | rfl | rfl | rfl | rfl
  · exact stepOp1 C R hR K hK
  · exact stepOp2 C R hR K hK
  · exact stepOp3 C R hR K hK
  · exact stepOp4 C R hR K hK
  · exact stepOp5 C R hR K hK
  · exact stepOp6 C R hR K hK
  · exact stepOp7 C R hR K hK
  · exact stepOp8 C R hR K hK
  · exact stepOp9 C R hR K hK
  · exact stepOp10 C R hR K hK
  · exact stepOp11 C R hR K hK
  · exact stepOp12 C R hR K hK
  · exact stepOp13 C R hR K hK
  · exact stepOp14 C R hR K hK
  · exact stepOp15 C R hR K hK
  · exact stepOp16 C R hR K hK
  · exact stepOp17 C hC R hR K hK
  · exact stepOp18 C R hR K hK
  · exact stepOp19 C R hR K hK
  · exact stepOp20 C R hR K hK
end Pg
end Go.Proofs.Ytffkkhaiedhaiaa

/- The machine's call as a whole. -/
namespace Go.Proofs.Ytffkkhaiedhaiaa
namespace Pg
open Go.ChangeShapes Go.WideShapes Go.ChangeAt Go.RowKit St Wd

theorem sel_or (p : Prg) (c n : Int) : selF p c n = -1 ∨ ∃ s d x, s < p.length ∧ selF p c n = ((s : Nat) : Int) ∧ p[s]? = some d ∧ ownF d n = some x := by
  unfold selF
  cases h : (upL p c).find? (hasM p n) with
  | none => exact .inl rfl
  | some y =>
    right
    have hy := upL_mem (List.mem_of_find?_eq_some h)
    have hh := List.find?_some h
    obtain ⟨s, rfl⟩ := Int.eq_ofNat_of_zero_le hy.1
    have hs : s < p.length := by omega
    unfold hasM at hh
    rw [Int.toNat_natCast, List.getElem?_eq_getElem hs] at hh
    cases hx : ownF p[s] n with
    | none => simp only [] at hh; rw [hx] at hh; simp at hh
    | some x => exact ⟨s, p[s], x, hs, rfl, List.getElem?_eq_getElem hs, hx⟩
theorem callS_far {p : Prg} {m : Mc} {f : Fr} {A Bi : Int} (hA : (p.length : Int) ≤ A) : callS p m f A Bi = (m, 6) := by
  unfold callS
  cases methS p (selF p A Bi) Bi with
  | none => rfl
  | some own => simp only []; rw [if_pos hA]
theorem callS_none {p : Prg} {m : Mc} {f : Fr} {A Bi : Int} (h : selF p A Bi = -1) : callS p m f A Bi = (m, 6) := by
  unfold callS
  rw [h]
  rfl
set_option maxRecDepth 100000 in
set_option maxHeartbeats 4000000 in
theorem l8Call_at (Bp : Nat) (p : Prg) (bp po cap : Nat) (hok : okP p = true) (hsp : SmallP p) (B M : Nat) (m : Mc) (hcore : Core m) (f : Fr) (hlast : m.frames.getLast? = some f) : CallOk Bp p bp po cap B M m f := by
  intro A Bi w hoi hB hm hp
  have hl0 : 0 < m.frames.length := by
    rcases Nat.eq_zero_or_pos m.frames.length with h | h
    · rw [List.eq_nil_of_length_eq_zero h] at hlast; simp at hlast
    · exact h
  obtain ⟨q, hq⟩ : ∃ q, m.frames.length = q + 1 := ⟨m.frames.length - 1, by omega⟩
  have hf : m.frames[q]? = some f := by
    rw [List.getLast?_eq_getElem?, hq] at hlast
    simpa using hlast
  have hfo := hcore.fr f (List.mem_of_getElem? hf)
  have h30 := hcore.f30
  have hA0 : 0 ≤ A := by
    unfold Tx.okI at hoi
    rw [if_neg (by omega)] at hoi
    simp only [Bool.and_eq_true, decide_eq_true_eq] at hoi
    exact hoi.1.1.1
  obtain ⟨G, fcap, vS, vL, vh, vs, ch, cf, Th, Tf, hT⟩ := hm.tp hf
  rw [hq] at hT
  have h6 := (okP_len hok).2
  have HSU : Hid (SupOk p p.length) := okP_sup hok
  obtain ⟨W, hW⟩ : ∃ W, W = (w.alloc (.cells #[.slice (some ⟨bp, po, none⟩) p.length cap] 39)).alloc (.cells #[.int .i64 17, .int .i64 A, .int .i64 Bi] 76) := ⟨_, rfl⟩
  have hwW : Below w.heap.size w W := by rw [hW]; exact ((Below.refl _ _).alloc (Nat.le_refl _) _).alloc (by simp) _
  have P0 : Hid (Cells W w.heap.size [.slice (some ⟨bp, po, none⟩) p.length cap]) := by rw [hW]; exact (Cells.new w _ rfl _ _).alloc _
  have I0 : Hid (Cells W (w.heap.size + 1) [.int .i64 17, .int .i64 A, .int .i64 Bi]) := by rw [hW]; exact Cells.new (w.alloc _) _ (by simp) _ _
  have hGl := hT.glt
  have HT : Hid (∀ X, Below w.heap.size w X → Tp B M X m (q + 1) q f G fcap vS vL vh vs ch cf Th Tf) := fun X hX => hT.on hX
  have HP : Hid (SK front Bp w (.slice (some ⟨bp, po, none⟩) p.length cap) p) := hp
  have r1W := (HT.out W hwW).cells.g1.1
  have e1 := cell_regrown r1W
  have hqi : ((q : Int) + 1) - 1 = (q : Int) := by omega
  clear hT hp hm hoi hl0 hlast
  go_enter Try.func92, Try.ntmps92
  go_upto_region 1 with fail
  rw [← hW]
  clear hW
  refine wp_region_quiet_below (by kernel_rfl) (by kernel_rfl) ?_
  repeat (go_big_quiet_step (fail))
  refine wpQuiet_nil ?_
  intro _ hw'
  obtain ⟨⟨dq, osq⟩, hw''⟩ := hw'
  subst hw''
  have hWX := below_regrown W dq osq
  have hwX : Below w.heap.size w (Sort.grow (redrawn W dq) osq) := below_over hwW hWX
  have P1 : Hid (Cells (Sort.grow (redrawn W dq) osq) w.heap.size [.slice (some ⟨bp, po, none⟩) p.length cap]) := P0.out.on hWX
  have I1 : Hid (Cells (Sort.grow (redrawn W dq) osq) (w.heap.size + 1) [.int .i64 17, .int .i64 A, .int .i64 Bi]) := I0.out.on hWX
  clear e1 r1W hWX P0 I0 hwW
  generalize Sort.grow (redrawn W dq) osq = X at *
  clear W dq osq
  have p0 := P1.out.g0.1
  have i1 := I1.out.g1.1
  have i2 := I1.out.g2.1
  by_cases hA : A < (p.length : Int)
  · go_wp2_with fail
    refine (l5Selected Bp p (some ⟨bp, po, none⟩) cap A Bi (by omega) hA hsp h6 HSU.out X (SK.on HP.out (Keep.of hwX))).mono ?_
    rintro e Y ⟨rfl, hXY⟩
    have hwY : Below w.heap.size w Y := below_over hwX hXY
    have P2 : Hid (Cells Y w.heap.size [.slice (some ⟨bp, po, none⟩) p.length cap]) := P1.out.on hXY
    have I2 : Hid (Cells Y (w.heap.size + 1) [.int .i64 17, .int .i64 A, .int .i64 Bi]) := I1.out.on hXY
    clear p0 i1 i2 P1 I1 hXY
    rcases sel_or p A Bi with h | ⟨s, c, own, hs, hse, hc, how⟩
    · have HE : Hid (callS p m f A Bi = (m, 6)) := callS_none h
      have HF : Hid (MSt B M Y m ∧ Below B w Y) := ⟨(HT.out Y hwY).st, hwY.mono hB⟩
      rw [h]
      clear h
      go_wp2
      go_ret
      exact ⟨by rw [HE.out]; rfl, by rw [HE.out]; exact HF.out.1, HF.out.2⟩
    · obtain ⟨k, own', hkl, hk, hoi, how'⟩ : ∃ k m', k < c.meths.length ∧ c.meths[k]? = some m' ∧ ownI c Bi = (k : Int) ∧ ownF c Bi = some m' := by
        rcases ownI_cases c Bi with ⟨_, h2⟩ | h2
        · rw [how] at h2; simp at h2
        · exact h2
      obtain rfl : own = own' := by rw [how] at how'; simpa using how'
      have hm : methS p (selF p A Bi) Bi = some own := by
        unfold methS
        rw [hse, if_neg (by omega), Int.toNat_natCast, hc]
        exact how
      have HSE : Hid (selF p A Bi = (s : Int)) := hse
      have HC : Hid (p[s]? = some c) := hc
      have HK : Hid (c.meths[k]? = some own) := hk
      have HOI : Hid (ownI c Bi = (k : Int)) := hoi
      have HM : Hid (methS p (selF p A Bi) Bi = some own) := hm
      have hs0 : ¬ (s : Int) < 0 := by omega
      rw [hse]
      clear hse hc hk hoi hm how how' hkl
      dsimp only
      repeat (fail_if_success (with_reducible refine (id : Code.wp Try.prog (Code.seq (Code.region 4 _ _) _) _ _ _ → _) ?_)
              go_step)
      exact callOwn Bp p bp po cap hok hsp B M m hcore q f G fcap vS vL vh vs ch cf Th Tf Y (Nat.le_trans hB hwY.size) (SK.on HP.out (Keep.of hwY)) (HT.out Y hwY) hq hfo A Bi _ _ P2.out I2.out (by omega) hA0 hA s k c own HSE.out HC.out HK.out HOI.out HM.out (fun e w' => e = .returned (.int .i64 (callS p m f A Bi).2) ∧ MSt B M w' (callS p m f A Bi).1 ∧ Below B w w') (fun w' h1 h2 => ⟨rfl, h1, (hwY.mono hB).trans h2⟩)
  · have hAi : (p.length : Int) ≤ A := by omega
    have HE : Hid (callS p m f A Bi = (m, 6)) := callS_far hAi
    have HF : Hid (MSt B M X m ∧ Below B w X) := ⟨(HT.out X hwX).st, hwX.mono hB⟩
    go_wp2
    go_ret
    exact ⟨by rw [HE.out]; rfl, by rw [HE.out]; exact HF.out.1, HF.out.2⟩
end Pg
end Go.Proofs.Ytffkkhaiedhaiaa

/- The step, op by op: 14. -/
import Derived.Test.YtffkkhaiedhaiaaJMc0
import Derived.Test.YtffkkhaiedhaiaaJSd3
namespace Go.Proofs.Ytffkkhaiedhaiaa
namespace Pg
open Go.ChangeShapes Go.WideShapes Go.ChangeAt Go.RowKit St Wd

variable {Bp : Nat} {p : Prg} {bp po cap B M : Nat} {m : Mc} {q : Nat} {f : Fr} {own : Meth} {op A Bi : Int} {b2 b6 bi bt G fcap : Nat} {vS vL vh vs vA : Value} {gc cc : Nat} {ch cf : List (List Value)} {Th Tf : Nat → Nat → Nat → Prop} {w0 w : World}
set_option maxRecDepth 100000 in
set_option maxHeartbeats 4000000 in
theorem stepOp14 (C : StepC Bp p bp po cap B M m q f own 14 A Bi b2 b6 bi bt G fcap vS vL vh vs vA gc cc ch cf Th Tf w0 w) (R : Ending → World → Prop)
    (hR : ∀ w', MSt B M w' (stepI p m f own (14, A, Bi)).1 → Below B w w' → R (.returned (.int .i64 (stepI p m f own (14, A, Bi)).2)) w') (K : Act → World → Prop) (hK : ∀ a w', Code.wp Try.prog (c8 [true, true, true, true, true, true, true, true, true, true, true, true, true, true, true]) (bodyPost Try.prog Try.f56 R) a w' → K a w')
    {u0 u3 u4 u14 u15 u16 u17 u18 u19 u20 u21 u22 u23 u24 u25 u26 u27 u28 u29 u30 u31 u32 u33 u34 u35 u36 u37 u38 u39 u40 u41 u42 u43 u44 u45 u46 u47 u48 u49 u50 u51 u52 u53 u54 u55 u56 u57 u58 u59 u60 u61 u62 u63 u64 u65 u66 u67 u68 u69 u70 u71 u72 u73 u74 u75 u76 u77 u78 u79 u80 u81 u82 u83 u84 u85 u86 u87 u88 u89 u90 u91 u92 u93 u94 u95 u96 u97 u98 u99 u100 u101 u102 u103 u104 u105 u106 u107 u108 u109 u110 u111 u112 u113 u114 u115 u116 u117 u118 u119 u120 u121 u122 u123 u124 u125 u126 u127 u128 u129 u130 u131 u132 u133 u134 u135 u136 u137 u138 u139 u140 u141 u142 u143 u144 u145 u146 : Value} : Code.wp Try.prog (c8 [true, true, true, true, true, true, true, true, true, true, true, true, true, true, false]) (Exit.then K (bodyPost Try.prog Try.f56 R)) { tmps := #[u0, .pointer (some ⟨M, 0, none⟩), .pointer (some ⟨b2, 0, none⟩), u3, u4, .pointer (some ⟨G, q * 5, none⟩), .pointer (some ⟨b6, 0, none⟩), .pointer (some ⟨bi, 0, none⟩), .int .i64 (f.stk.length : Int), .int .i64 (takesS 14 : Int), .pointer (some ⟨bt, 0, none⟩), .pointer (some ⟨bt + 1, 0, none⟩), .slice (some ⟨w.heap.size, 0, none⟩) 0 0, undef, u14, u15, u16, u17, u18, u19, u20, u21, u22, u23, u24, u25, u26, u27, u28, u29, u30, u31, u32, u33, u34, u35, u36, u37, u38, u39, u40, u41, u42, u43, u44, u45, u46, u47, u48, u49, u50, u51, u52, u53, u54, u55, u56, u57, u58, u59, u60, u61, u62, u63, u64, u65, u66, u67, u68, u69, u70, u71, u72, u73, u74, u75, u76, u77, u78, u79, u80, u81, u82, u83, u84, u85, u86, u87, u88, u89, u90, u91, u92, u93, u94, u95, u96, u97, u98, u99, u100, u101, u102, u103, u104, u105, u106, u107, u108, u109, u110, u111, u112, u113, u114, u115, u116, u117, u118, u119, u120, u121, u122, u123, u124, u125, u126, u127, u128, u129, u130, u131, u132, u133, u134, u135, u136, u137, u138, u139, u140, u141, u142, u143, u144, u145, u146, undef, undef, undef, undef, undef, undef, undef, undef, undef, undef, undef, undef, undef, undef, undef, undef, undef, undef, undef, undef, undef, undef, undef, undef, undef, undef, undef, undef, undef, undef, undef, undef, undef, undef, undef, undef, undef, undef, undef, undef, undef, undef, undef, undef, undef, undef, undef, undef, undef, undef, undef, undef, undef, undef, undef, undef, undef, undef, undef, undef, undef, undef, undef, undef, undef, undef, undef, undef, undef, undef, undef, undef, undef, undef, undef, undef, undef, undef, undef, undef, undef, undef, undef, undef, undef, undef, undef, undef, undef, undef, undef, undef, undef, undef, undef, undef, undef, undef, undef, undef, undef, undef, undef, undef, undef, undef, undef, undef, undef, undef, undef, undef, undef, undef, undef, undef, undef, undef, undef, undef, undef, undef, undef, undef, undef, undef, undef, undef, undef, undef, undef, undef, undef, undef, undef, undef, undef, undef, undef, undef, undef, undef, undef, undef, undef, undef, undef, undef, undef, undef, undef, undef, undef, undef, undef, undef, undef, undef, undef, undef, undef, undef, undef, undef, undef, undef, undef, undef, undef, undef, undef, undef, undef, undef, undef, undef, undef, undef, undef, undef, undef, undef, undef, undef, undef, undef, undef, undef, undef, undef, undef, undef, undef, undef, undef, undef, undef, undef, undef, undef, undef, undef, undef, undef, undef, undef, undef, undef, undef, undef, undef, undef, undef, undef, undef, undef, undef, undef, undef, undef, undef, undef, undef, undef, undef, undef, undef, undef, undef, undef, undef, undef, undef, undef, undef, undef, undef, undef, undef, undef, undef, undef, undef, undef, undef, undef, undef, undef, undef, undef, undef, undef, undef, undef, undef, undef, undef, undef, undef, undef, undef, undef, undef, undef, undef, undef, undef, undef, undef, undef, undef, undef, undef, undef, undef, undef, undef, undef, undef, undef, undef, undef, undef, undef, undef, undef, undef, undef, undef, undef, undef, undef, undef, undef, undef, undef, undef, undef, undef, undef, undef, undef, undef, undef, undef, undef, undef, undef, undef, undef, undef, undef, undef, undef, undef, undef, undef, undef, undef, undef, undef, undef, undef, undef, undef, undef, undef, undef, undef, undef, undef, undef, undef, undef, undef, undef, undef, undef, undef, undef, undef, undef, undef, undef, undef, undef, undef, undef, undef, undef, undef, undef, undef, undef, undef, undef, undef, undef, undef, undef, undef, undef, undef, undef, undef, undef, undef, undef, undef, undef, undef, undef, undef, undef, undef, undef], defers := [] } (w.alloc (.cells #[] 57)) := by
  have hX : Below w.heap.size w (w.alloc (.cells #[] 57)) := (Below.refl _ _).alloc (Nat.le_refl _) _
  have ci := (C.CI.on hX).g0.1
  have ci1 := (C.CI.on hX).g1.1
  have p0 := (C.P2.on hX).g0.1
  have HR : Hid (∀ w', MSt B M w' (stepI p m f own (14, A, Bi)).1 → Below B w w' → R (.returned (.int .i64 (stepI p m f own (14, A, Bi)).2)) w') := hR
  clear hR
  have hA : 0 ≤ A ∧ A < 6 := by have := C.okI; unfold Tx.okI Tx.limA at this; simp at this; omega
  obtain ⟨a, rfl⟩ := Int.eq_ofNat_of_zero_le hA.1
  by_cases hpa : p.length ≤ a
  · have hbq : decide ((a : Int) ≥ (p.length : Int)) = true := by simp; omega
    have hli : (p.length : Int) ≤ (a : Int) := by omega
    have hsi : stepI p m f own (14, (a : Int), Bi) = (m, 6) := by
      simp only [stepI]
      rw [if_neg C.step]
      simp [hpa]
    rw [hsi] at HR
    unfold c8
    conv => arg 2; whnf
    go_wp2_with fail
    exact HR.out _ (C.TW.on hX).st (hX.mono (Nat.le_trans C.hB C.b0.size))
  · have hpl : ¬ (p.length : Int) ≤ (a : Int) := by omega
    have hbp : decide ((a : Int) ≥ (p.length : Int)) = false := by simp; omega
    obtain ⟨ah, ch', rfl⟩ := own_any C.T.own.h.own
    have m0 : (w.alloc (.cells #[] 57)).cell? ⟨M, 0, none⟩ = some (.slice ah m.heap.length ch') := (C.TW.on hX).cells.g0.1
    have h50 := C.core.h50
    by_cases hs : m.heap.length = 50
    · have hsi' : (m.heap.length : Int) = 50 := by omega
      have hbq : ((m.heap.length : Int) == 50) = true := by simp [hsi']
      clear hsi'
      have hsi : stepI p m f own (14, (a : Int), Bi) = (m, 4) := by
        simp only [stepI]
        rw [if_neg C.step]
        simp [hpa, hs]
      rw [hsi] at HR
      unfold c8
      conv => arg 2; whnf
      go_wp2_with fail
      exact HR.out _ (C.TW.on hX).st (hX.mono (Nat.le_trans C.hB C.b0.size))
    · have hbq : ((m.heap.length : Int) == 50) = false := by simp; omega
      have hsi : stepI p m f own (14, (a : Int), Bi) = onS { m with heap := m.heap ++ [⟨(a : Int), (fieldsR p 6 (a : Int)).map valF⟩] } f 0 [(2, (m.heap.length : Int))] (f.pos + 1) := by
        simp only [stepI]
        rw [if_neg C.step]
        simp [hs, hpa]
      rw [hsi] at HR
      have HW := hX
      have HV : Below (w.alloc (.cells #[] 57)).heap.size (w.alloc (.cells #[] 57)) ((w.alloc (.cells #[] 57)).alloc (.cells #[.int .i64 2, .int .i64 (m.heap.length : Int)] 57)) := (Below.refl _ _).alloc (Nat.le_refl _) _
      have hB2 : Below w.heap.size w ((w.alloc (.cells #[] 57)).alloc (.cells #[.int .i64 2, .int .i64 (m.heap.length : Int)] 57)) := HW.alloc HW.size _
      have HN2 : Hid (GrowV w.heap.size ((w.alloc (.cells #[] 57)).alloc (.cells #[.int .i64 2, .int .i64 (m.heap.length : Int)] 57)) (.slice (some ⟨w.heap.size, 0, none⟩) ([] : List Vl).length 0) []) := (growV_nil w).on HV
      have HSV : Hid (SV true 0 ((w.alloc (.cells #[] 57)).alloc (.cells #[.int .i64 2, .int .i64 (m.heap.length : Int)] 57)) (.slice (some ⟨(w.alloc (.cells #[] 57)).heap.size, 0, none⟩) ([(2, (m.heap.length : Int))]).length 1) ([(2, (m.heap.length : Int))])) := sv_one (Cells.new (w.alloc (.cells #[] 57)) _ rfl _ _)
      clear HV HW
      unfold c8
      conv => arg 2; whnf
      go_wp2_with (at_builtin; refine wpList_growV _ rfl (.tmp 272) (.tmp 279) rfl w.heap.size w.heap.size 0 [] (by simp [Act.eval]) HN2.out (by simp; omega) (some ⟨w.heap.size + 1, 0, none⟩) 1 0 [(2, (m.heap.length : Int))] (by simp [Act.eval]) (by have := HSV.out; rw [World.size_alloc] at this; exact this) (by simp) ?_)
      intro g1 c1 w1 G1 B1 E1 O1
      have hX1 : Below w.heap.size w w1 := hB2.trans B1
      have HG1 : Hid (GrowV w.heap.size w1 (.slice (some ⟨g1, 0, none⟩) ([(2, (m.heap.length : Int))] : List Vl).length c1) [(2, (m.heap.length : Int))]) := by show GrowV _ _ _ _; simpa using G1
      clear G1 B1 E1 O1 HN2 HSV hB2 m0 ci ci1 p0
      go_upto_region 55 with fail
      obtain ⟨i0, hif, hz0, hz1, hz2⟩ := info_parts infoObject
      have hXd : Below w.heap.size w w1.drew := hX1.drew
      have m0d : w1.drew.cell? ⟨M, 0, none⟩ = some (.slice ah m.heap.length ch') := (C.TW.on hXd).cells.g0.1
      have ci1d := (C.CI.on hXd).g1.1
      have p0d := (C.P2.on hXd).g0.1
      have hap : a < p.length := by omega
      obtain ⟨o, ho⟩ : ∃ o : Ob, o = ⟨(a : Int), (fieldsR p 6 (a : Int)).map valF⟩ := ⟨_, rfl⟩
      have HCA : Hid (Calls Try.prog 82 #[.agg #[.slice (some ⟨bp, po, none⟩) p.length cap], .int .i64 a] w1.drew fun e w' => ∃ x y, e = .returned (.agg #[.int .i64 a, .slice x o.flds.length y]) ∧ VZ (fun k => w1.drew.heap.size < k ∧ k < w'.heap.size) w' (.slice x o.flds.length y) o.flds ∧ Below w1.drew.heap.size w1.drew w') := by
        have := l8New_at Bp p bp po cap a C.ok hap w1.drew (SK.on C.skw (Keep.of hXd))
        rw [ho]
        exact this
      have HM0 : Hid (∀ w2, Below w1.drew.heap.size w1.drew w2 → w2.cell? ⟨M, 0, none⟩ = some (.slice ah m.heap.length ch')) := fun w2 hb2 => (C.TW.on (below_over hXd hb2)).cells.g0.1
      have HM1 : Hid (∀ w2 x y, Below w1.drew.heap.size w1.drew w2 → (w2.alloc (.cells #[.int .i64 (a : Int), .slice x o.flds.length y] 118)).cell? ⟨M, 0, none⟩ = some (.slice ah m.heap.length ch')) := fun w2 x y hb2 => ((C.TW.on (below_over hXd hb2)).on ((Below.refl _ _).alloc (Nat.le_refl _) _)).cells.g0.1
      have HOW : Hid (∀ w2 ob, Below w1.drew.heap.size w1.drew w2 → (w2.alloc ob).ownsRow B 118 2 (.slice ah m.heap.length ch') m.heap.length (recs recO m.heap ch).flatten) := fun w2 ob hb2 => ownOn (ownOn C.TW.own.h.own (below_over hXd hb2)) ((Below.refl _ _).alloc (Nat.le_refl _) _)
      have HCE : Hid (∀ (w2 : World) (x y : Value) (j : Nat) (u : Value), ([x, y] : List Value)[j]? = some u → (w2.alloc (.cells #[x, y] 118)).cell? ((⟨w2.heap.size, 0, none⟩ : Addr).add j) = some u) := fun w2 x y j u hu => by
        rw [Go.WideShapes.add_plain, Nat.zero_add]
        exact (Cells.new w2 _ rfl [x, y] 118 j u hu).1
      have hone : ∀ (x : Option Addr) (n y : Nat) (u : Value), u ∈ ([.int .i64 (a : Int), .slice x n y] : List Value) → u.oneCell' = true := by simp [Value.oneCell']
      have h63 : m.heap.length + 1 ≤ maxLen := by unfold maxLen; omega
      have hby : (m.heap.length + 1) * 32 ≤ 140737488355328 := by omega
      have hn0 : m.heap.length + 1 ≠ 0 := by omega
      have HBW : Hid (∀ w2 ob, Below w1.drew.heap.size w1.drew w2 → B ≤ (w2.alloc ob).heap.size) := fun w2 ob hb2 => by
        have h1 := C.hB; have h2 := C.b0.size; have h3 := hXd.size; have h4 := hb2.size
        rw [World.size_alloc]; omega
      have hMv : (Value.slice ah m.heap.length ch').ownBlock ≠ some M := fun e => C.T.ne M (.inl (.inl e)) rfl
      have HST : Hid (∀ w2 ob W', Below w1.drew.heap.size w1.drew w2 → (w2.alloc ob).grownBy W' (Value.slice ah m.heap.length ch').ownBlock → W'.cell? ⟨M, 0, none⟩ = some (.slice ah m.heap.length ch') ∧ W'.frozen? ⟨M, 0, none⟩ = false) := fun w2 ob W' hb2 hW' => by
        have hT := (C.TW.on (below_over hXd hb2)).on ((Below.refl w2.heap.size w2).alloc (Nat.le_refl _) ob)
        have e := hW'.block M hT.mlt fun e => hMv e.symm
        exact ⟨(World.cell?_of_block (w := w2.alloc ob) e).trans hT.cells.g0.1, (World.frozen?_of_block (w := w2.alloc ob) e).trans hT.cells.g0.2⟩
      have HO : Hid (o = ⟨(a : Int), (fieldsR p 6 (a : Int)).map valF⟩) := ho
      clear ho
      apply meetM
      case h => intro hp; go_region_law (first
        | (go_simp; go_at_call 82; refine HCA.out.mono ?_; rintro e w2 ⟨x, y, rfl, hV, hb2⟩; have m02 := HM0.out w2 hb2; have m03 := HM1.out w2 x y hb2; dsimp only)
        | (refine stepAppAtM _ rfl (.tmp 285) (.tmp 290) 41 rfl B 118 i0 (.agg #[.int .i64 0, .slice none 0 0]) 2 32 Try.underlying41 hif hz0 hz1 hz2 rfl (by decide) (.slice ah m.heap.length ch') m.heap.length (recs recO m.heap ch).flatten (by simp [Act.eval]) (HOW.out _ _ hb2) ⟨w2.heap.size, 0, none⟩ 1 1 [.int .i64 (a : Int), .slice x o.flds.length y] (by simp [Act.eval]) rfl (HCE.out _ _ _) (hone _ _ _) h63 hby (HBW.out _ _ hb2) ?_; intro v1 w3 hown1 hgr1 hiff1 hat1; obtain ⟨g3, c3, hv1⟩ := own_form hown1 hn0; subst hv1; clear hiff1; obtain ⟨y2, z2⟩ := HST.out _ _ w3 hb2 hgr1; dsimp only)); all_goals (clear y2 z2 m02 m03; revert w3 g3 c3 x y w2; exact hp)
      intro w2 x y hV hb2 w3 hgr1 g3 c3 hown1 hat1
      have hX2 : Below w.heap.size w w2 := below_over hXd hb2
      have hXD : Below w.heap.size w (w2.alloc (.cells #[.int .i64 (a : Int), .slice x o.flds.length y] 118)) := hX2.alloc hX2.size _
      have hoc : o.cls = (a : Int) := by rw [HO.out]
      obtain ⟨chZ, ThZ, hTZ⟩ := C.TW.new (Nat.le_trans C.hB C.b0.size) hXD (w' := w3) (v' := .slice (some ⟨g3, 0, none⟩) (m.heap.length + 1) c3) (y := .slice x o.flds.length y) (o := o) ((hV.on ((Below.refl _ _).alloc (Nat.le_refl _) _)).weak fun k hk => ⟨by have := hXd.size; have := hk.1; omega, by have := hk.2; simp; omega⟩) (by rw [hoc]; exact hown1) hgr1 hat1
      have hO : Only M w3 (w3.setCell ⟨M, 0, none⟩ (.slice (some ⟨g3, 0, none⟩) (m.heap.length + 1) c3)) := (Only.refl _ _).set _ _
      have hoff : ∀ k, w0.heap.size ≤ k → some k ≠ (Value.slice ah m.heap.length ch').ownBlock := fun k hk e => by have := C.T.own.lt k (.inl (.inl e.symm)); omega
      have hMl : M < w0.heap.size := C.T.mlt
      have hBD : B ≤ (w2.alloc (.cells #[.int .i64 (a : Int), .slice x o.flds.length y] 118)).heap.size := HBW.out _ _ hb2
      have IZ : Hid (Cells (w3.setCell ⟨M, 0, none⟩ (.slice (some ⟨g3, 0, none⟩) (m.heap.length + 1) c3)) bi [.int .i64 14, .int .i64 (a : Int), .int .i64 Bi]) := ((C.CI.on hXD).grown hgr1 (hoff bi C.li)).onlyM hO (by have := C.li; omega)
      have TZ : Hid (Cells (w3.setCell ⟨M, 0, none⟩ (.slice (some ⟨g3, 0, none⟩) (m.heap.length + 1) c3)) bt [.int .i64 (topV f.stk).1, .int .i64 (topV f.stk).2]) := ((C.CT.on hXD).grown hgr1 (hoff bt C.lt)).onlyM hO (by have := C.lt; omega)
      have hBZ : Below B w (w3.setCell ⟨M, 0, none⟩ (.slice (some ⟨g3, 0, none⟩) (m.heap.length + 1) c3)) := ((hXD.mono (Nat.le_trans C.hB C.b0.size)).grown hgr1 hBD (fun k hk => C.T.own.low k (.inl (.inl hk)))).setCell C.T.low _
      have hsZ := Nat.le_trans (Nat.le_trans C.hB C.b0.size) hBZ.size
      have hPZ : SV true 0 (w3.setCell ⟨M, 0, none⟩ (.slice (some ⟨g3, 0, none⟩) (m.heap.length + 1) c3)) (.slice (some ⟨g1, 0, none⟩) ([(2, (m.heap.length : Int))] : List Vl).length c1) [(2, (m.heap.length : Int))] := by
        refine (HG1.out.vz.moved (w := w3.setCell ⟨M, 0, none⟩ (.slice (some ⟨g3, 0, none⟩) (m.heap.length + 1) c3)) ?_ fun k hk hl => ?_).sv
        · have h1 := hb2.size; have h2 := hgr1.size
          simp only [World.size_setCell, World.size_alloc] at h2 ⊢
          have h3 : w1.drew.heap.size = w1.heap.size := rfl
          omega
        · have hl2 : k < w2.heap.size := Nat.lt_of_lt_of_le hl hb2.size
          rw [hO.block k (by have := hk.1; have := C.b0.size; omega), hgr1.block k (by simp; omega) (hoff k (by have := hk.1; have := C.b0.size; omega)), ((Below.refl w2.heap.size w2).alloc (Nat.le_refl _) _).block k hl2]
          exact hb2.block k hl
      clear hown1 hgr1 hat1 HOW HCE HST hO HM0 HM1 HCA
      go_wp2_with fail
      refine stepTail B M { m with heap := m.heap ++ [o] } q f G fcap vS vL _ vs chZ cf ThZ Tf (w3.setCell ⟨M, 0, none⟩ (.slice (some ⟨g3, 0, none⟩) (m.heap.length + 1) c3)) hsZ hTZ C.hq 14 (a : Int) Bi bi bt (topV f.stk) IZ.out TZ.out (by have := C.glt; have := C.li; omega) (by have := C.glt; have := C.lt; omega) (takesS 14) C.nt C.fok.s8 g1 c1 [(2, (m.heap.length : Int))] hPZ (by simp) C.pos R ?_
      intro w' hM hb'
      refine HR.out w' ?_ (hBZ.trans hb')
      rw [← HO.out]
      simpa [takesS] using hM
end Pg
end Go.Proofs.Ytffkkhaiedhaiaa

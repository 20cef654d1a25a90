/- The walk of the law FnExactSingle. -/
import Derived.Test.YtdomclicgajihaaJPm2
import Derived.Deep.RegionWith
namespace Go.Proofs.Ytdomclicgajihaa
namespace Pg
open Go.ChangeShapes Go.WideShapes Go.ChangeAt Go.RowKit St

theorem Mrk.cells {B1 B2 k : Nat} {u v : World} {vs : List Value} (h : Mrk B1 B2 u v) (hk : k < B1 ∨ B2 ≤ k) (hl : k < u.heap.size) (hc : Cells u k vs) : Cells v k vs := zcells hc (h.far k hl hk)
theorem sngC_sz (p : Prg) (c : Cls) : szC (sngC p c) ≤ szC c := by
  have h : ∀ l : List Meth, sumN ((l.filter fun m => !dblB p c m).map szM) ≤ sumN (l.map szM) := by
    intro l
    induction l with
    | nil => exact Nat.le_refl _
    | cons m l ih =>
      rw [List.filter_cons]
      split
      · simp only [List.map_cons, sumN, List.foldr_cons] at ih ⊢; omega
      · simp only [List.map_cons, sumN, List.foldr_cons] at ih ⊢; omega
  have h1 := h c.meths
  have h2 := List.length_filter_le (fun m => !dblB p c m) c.meths
  unfold szC szMs sngC
  dsimp only
  omega
theorem sngP_sz (p : Prg) : szP (sngP p) ≤ szP p := by
  unfold sngP
  split
  · have h : ∀ l : List Cls, sumN ((l.map (sngC p)).map szC) ≤ sumN (l.map szC) := by
      intro l
      induction l with
      | nil => exact Nat.le_refl _
      | cons c l ih =>
        have := sngC_sz p c
        simp only [List.map_cons, sumN, List.foldr_cons] at ih ⊢
        omega
    have := h p
    unfold szP
    rw [List.length_map]
    omega
  · simp [szP, sumN]

set_option maxRecDepth 100000 in
set_option maxHeartbeats 4000000 in
theorem sngLaw (a : Option Addr) (cap : Nat) (p : Prg) (hs : SaneP p) (w : World) (hin : SK wide 0 w (.slice a p.length cap) p) :
    Calls Try.prog 3 #[.agg #[.slice a p.length cap]] w fun e w' => e = .returned (.bool true) ∧ Below w.heap.size w w' := by
  have HIN : Hid (SK wide 0 w (.slice a p.length cap) p) := hin
  have HS : Hid (SaneP p) := hs
  clear hin hs
  obtain ⟨W, hW⟩ : ∃ W, W = w.alloc (.cells #[.slice a p.length cap] 24) := ⟨_, rfl⟩
  have hwW : Below w.heap.size w W := by rw [hW]; exact (Below.refl _ _).alloc (Nat.le_refl _) _
  have L0 : Hid (Cells W w.heap.size [.slice a p.length cap]) := by rw [hW]; exact Cells.new w _ rfl _ _
  by_cases hsz : (szP p : Int) ≤ 1048576
  · have HSN : Hid (szP p ≤ 1048576) := by show _ ≤ _; omega
    have HSM : Hid (SmallP p) := SmallP.of HSN.out
    have HSZ : Hid (szR (szP p) 1048576 = 1048576 - (szP p : Int)) := szR_yes hsz
    have hq : 0 ≤ 1048576 - (szP p : Int) := by omega
    obtain ⟨P, HPN, HSF, HIF⟩ : ∃ P : Prg, Hid (szP P ≤ 1048576) ∧
        Hid (∀ B v d w, SK front B w (.slice v p.length d) p → Calls Try.prog 6 #[.agg #[.slice v p.length d]] w fun e w' => ∃ v, e = .returned (.agg #[v]) ∧ SK front w.heap.size w' v P ∧ Below w.heap.size w w') ∧
        Hid (∀ B v d w, SK front B w (.slice v p.length d) p → Calls Try.prog 8 #[.agg #[.slice v p.length d]] w fun e w' => ∃ v, e = .returned (.agg #[v]) ∧ SK front w.heap.size w' v P ∧ (adP w' v P).Nodup ∧ Below w.heap.size w w') :=
      ⟨sngP p, Nat.le_trans (sngP_sz p) HSN.out, fun B v d w h => specSingle B p v d HSM.out w h, fun B v d w h => implSingle B p v d HSM.out w h⟩
    have HPM : Hid (SmallP P) := SmallP.of HPN.out
    go_enter Try.func3, Try.ntmps3
    go_wp2_with fail
    rw [← hW]
    clear hW
    refine (szProgram wide 0 a cap p HS.out _ (SK.on HIN.out (Keep.of hwW))).mono ?_
    rw [HSZ.out]
    rintro e w1 ⟨rfl, hb1⟩
    have hw1 : Below w.heap.size w w1 := below_over hwW hb1
    have hW1 : Below W.heap.size W w1 := hb1
    obtain ⟨c1, _⟩ := (L0.out.on hW1).g0
    clear hb1 HSZ
    go_wp2_with fail
    refine (toProgram p a cap HSM.out _ (SK.on HIN.out (Keep.of hw1))).mono ?_
    rintro e w2 ⟨v2, rfl, hv2, hb2⟩
    obtain ⟨a2, d2, rfl⟩ := hv2.form
    have hw2 : Below w.heap.size w w2 := below_over hw1 hb2
    have hW2 : Below W.heap.size W w2 := below_over hW1 hb2
    have HV2 : Hid (SK front w1.heap.size w2 (.slice a2 p.length d2) p) := hv2
    clear hb2 hv2 c1
    go_wp2_with fail
    refine (HSF.out w1.heap.size a2 d2 _ HV2.out).mono ?_
    rintro e w3 ⟨vS, rfl, hvS, hb3⟩
    obtain ⟨aS, dS, rfl⟩ := hvS.form
    obtain ⟨X3, hX3⟩ : ∃ X3, X3 = w3.alloc (.cells #[.slice aS P.length dS] 28) := ⟨_, rfl⟩
    have hbX3 : Below w3.heap.size w3 X3 := by rw [hX3]; exact (Below.refl _ _).alloc (Nat.le_refl _) _
    have S3 : Hid (Cells X3 w3.heap.size [.slice aS P.length dS]) := by show Cells _ _ _; rw [hX3]; exact Cells.new w3 _ rfl _ _
    have hw3 : Below w.heap.size w X3 := below_over (below_over hw2 hb3) hbX3
    have hW3 : Below W.heap.size W X3 := below_over (below_over hW2 hb3) hbX3
    have HS3 : Hid (SK front w2.heap.size X3 (.slice aS P.length dS) P) := SK.on hvS (Keep.of hbX3)
    have hs3 : w3.heap.size < X3.heap.size := St.cell_lt S3.out.g0.1
    obtain ⟨kS, hkS⟩ : ∃ kS, w3.heap.size = kS := ⟨_, rfl⟩
    rw [hkS] at S3 hs3
    have c3 := (L0.out.on hW3).g0.1
    clear hb3 HV2 hvS hbX3 hw2 hW2
    have c3' : (w3.alloc (.cells #[.slice aS P.length dS] 28)).cell? ⟨w.heap.size, 0, none⟩ = some (.slice a p.length cap) := by rw [← hX3]; exact c3
    go_wp2_with fail
    try rw [hkS]
    rw [← hX3]
    clear hX3 c3' hkS
    refine (toProgram p a cap HSM.out _ (SK.on HIN.out (Keep.of hw3))).mono ?_
    rintro e w4 ⟨v4, rfl, hv4, hb4⟩
    obtain ⟨a4, d4, rfl⟩ := hv4.form
    obtain ⟨X4, hX4⟩ : ∃ X4, X4 = w4.alloc (.cells #[.slice a4 p.length d4] 28) := ⟨_, rfl⟩
    have hbX4 : Below w4.heap.size w4 X4 := by rw [hX4]; exact (Below.refl _ _).alloc (Nat.le_refl _) _
    have K4 : Hid (Cells X4 w4.heap.size [.slice a4 p.length d4]) := by show Cells _ _ _; rw [hX4]; exact Cells.new w4 _ rfl _ _
    have hb34 : Below X3.heap.size X3 X4 := below_over hb4 hbX4
    have HV4 : Hid (SK front X3.heap.size X4 (.slice a4 p.length d4) p) := SK.on hv4 (Keep.of hbX4)
    have SH4 : Hid (ShK X3.heap.size w4.heap.size X4 (.slice a4 p.length d4) p) := (shK_of hv4).mrk (Mrk.of hbX4)
    have hz34 : X3.heap.size ≤ w4.heap.size := hb4.size
    have hz4 : w4.heap.size < X4.heap.size := St.cell_lt K4.out.g0.1
    have FB : Hid (∀ Y, Below X3.heap.size X3 Y → Below w.heap.size w Y ∧ Y.cell? ⟨w.heap.size, 0, none⟩ = some (.slice a p.length cap) ∧ Y.cell? ⟨kS, 0, none⟩ = some (.slice aS P.length dS) ∧ SK front w2.heap.size Y (.slice aS P.length dS) P) := fun Y hY =>
      ⟨below_over hw3 hY, (hY.cell (cell_lt c3)).trans c3, ((S3.out.on hY).g0.1), SK.on HS3.out (Keep.of hY)⟩
    go_wp2_with fail
    rw [← hX4]
    clear hX4 hv4 hbX4 hb4
    refine (HIF.out X3.heap.size a4 d4 _ HV4.out).mono ?_
    rintro e w6 ⟨vG, rfl, hvG, hndG, hb6⟩
    obtain ⟨aG, dG, rfl⟩ := hvG.form
    obtain ⟨X6, hX6⟩ : ∃ X6, X6 = w6.alloc (.cells #[.slice aG P.length dG] 28) := ⟨_, rfl⟩
    have hbX6 : Below w6.heap.size w6 X6 := by rw [hX6]; exact (Below.refl _ _).alloc (Nat.le_refl _) _
    have K6 : Hid (Cells X6 w6.heap.size [.slice aG P.length dG]) := by show Cells _ _ _; rw [hX6]; exact Cells.new w6 _ rfl _ _
    have hb46 : Below X4.heap.size X4 X6 := below_over hb6 hbX6
    have hB6 : Below X3.heap.size X3 X6 := below_over hb34 hb46
    have HG6 : Hid (SK front X4.heap.size X6 (.slice aG P.length dG) P) := SK.on hvG (Keep.of hbX6)
    have SH6 : Hid (ShK X4.heap.size w6.heap.size X6 (.slice aG P.length dG) P) := (shK_of hvG).mrk (Mrk.of hbX6)
    have HN6 : Hid (adP X6 (.slice aG P.length dG) P).Nodup := by show List.Nodup _; rw [adP_keep hvG (Keep.of hbX6)]; exact hndG
    have K46 : Hid (Cells X6 w4.heap.size [.slice a4 p.length d4]) := K4.out.on hb46
    have HV6 : Hid (SK front X3.heap.size X6 (.slice a4 p.length d4) p) := SK.on HV4.out (Keep.of hb46)
    have SH46 : Hid (ShK X3.heap.size w4.heap.size X6 (.slice a4 p.length d4) p) := SH4.out.mrk (Mrk.of hb46)
    have hz46 : X4.heap.size ≤ w6.heap.size := hb6.size
    have hz6 : w6.heap.size < X6.heap.size := St.cell_lt K6.out.g0.1
    obtain ⟨hw6, cA6, cS6, HS6⟩ := FB.out _ hB6
    have cS6' : (w6.alloc (.cells #[.slice aG P.length dG] 28)).cell? ⟨kS, 0, none⟩ = some (.slice aS P.length dS) := by rw [← hX6]; exact cS6
    go_wp2_with fail
    rw [← hX6]
    clear hX6 cS6' hvG hndG hb6 hbX6 HV4 SH4 K4
    refine (eqProgram _ _ (.slice aG P.length dG) (.slice aS P.length dS) P HPM.out _ HG6.out HS6).mono ?_
    rintro e w7 ⟨rfl, hb7⟩
    have hB7 : Below X3.heap.size X3 w7 := below_over hB6 hb7
    have K47 : Hid (Cells w7 w4.heap.size [.slice a4 p.length d4]) := K46.out.on hb7
    have HV7 : Hid (SK front X3.heap.size w7 (.slice a4 p.length d4) p) := SK.on HV6.out (Keep.of hb7)
    have SH47 : Hid (ShK X3.heap.size w4.heap.size w7 (.slice a4 p.length d4) p) := SH46.out.mrk (Mrk.of hb7)
    have K67 : Hid (Cells w7 w6.heap.size [.slice aG P.length dG]) := K6.out.on hb7
    have HG7 : Hid (SK front X4.heap.size w7 (.slice aG P.length dG) P) := SK.on HG6.out (Keep.of hb7)
    have SH67 : Hid (ShK X4.heap.size w6.heap.size w7 (.slice aG P.length dG) P) := SH6.out.mrk (Mrk.of hb7)
    have HN7 : Hid (adP w7 (.slice aG P.length dG) P).Nodup := by show List.Nodup _; rw [adP_keep HG6.out (Keep.of hb7)]; exact HN6.out
    obtain ⟨hw7, cA7, cS7, HS7⟩ := FB.out _ hB7
    obtain ⟨x7, _⟩ := K47.out.g0
    have lx : w4.heap.size < w7.heap.size := St.cell_lt x7
    have hz67 : X6.heap.size ≤ w7.heap.size := hb7.size
    clear hb7 K46 HV6 SH46 K6 HG6 SH6 HN6 HS6 cA6 cS6 hw6 HS7 cS7
    go_wp2_with fail
    go_region_with (first
      | (go_at_call 7; refine (toProgram p a cap HSM.out _ ?hx).mono ?_; (case hx => exact SK.on HIN.out (Keep.of hw7.drew)); rintro e w8 ⟨v8, rfl, hv8, hb8⟩; have x8 := (hb8.cell (p := ⟨w4.heap.size, 0, none⟩) lx).trans x7)
      | (go_at_call 9; have q3 := SK.on HV7.out (Keep.of (below_over (Below.refl _ _).drew hb8)); refine (eqProgram X3.heap.size _ (.slice a4 p.length d4) _ p HSM.out _ q3 hv8).mono ?_; rintro e w9 ⟨rfl, hb9⟩))
    all_goals
      have hb79 : Below w7.heap.size w7 w9 := below_over (below_over (Below.refl _ _).drew hb8) hb9
      have hB9 : Below X3.heap.size X3 w9 := below_over hB7 hb79
      obtain ⟨x9, _⟩ := (K47.out.on hb79).g0
      have SH49 : Hid (ShK X3.heap.size w4.heap.size w9 (.slice a4 p.length d4) p) := SH47.out.mrk (Mrk.of hb79)
      have K69 : Hid (Cells w9 w6.heap.size [.slice aG P.length dG]) := K67.out.on hb79
      have HG9 : Hid (SK front X4.heap.size w9 (.slice aG P.length dG) P) := SK.on HG7.out (Keep.of hb79)
      have SH69 : Hid (ShK X4.heap.size w6.heap.size w9 (.slice aG P.length dG) P) := SH67.out.mrk (Mrk.of hb79)
      have HN9 : Hid (adP w9 (.slice aG P.length dG) P).Nodup := by show List.Nodup _; rw [adP_keep HG7.out (Keep.of hb79)]; exact HN7.out
      have hz79 : w7.heap.size ≤ w9.heap.size := hb79.size
      clear hb8 hb9 hv8 x7 cA7 q3 x8 hb79 K47 HV7 SH47 K67 HG7 SH67 HN7 lx
      go_wp2_with fail
      refine (markProgram' X3.heap.size w4.heap.size a4 d4 p HSN.out _ SH49.out).mono ?_
      rintro e wD ⟨rfl, hmD⟩
      have hBD : Below X3.heap.size X3 wD := hB9.trans (hmD.below (Nat.le_refl _) hB9.size)
      have hkD : Keep X4.heap.size w9 wD := hmD.keep.mono (Nat.le_of_lt hz4)
      have K6D : Hid (Cells wD w6.heap.size [.slice aG P.length dG]) := hmD.cells (.inr (by omega)) (by omega) K69.out
      have HGD : Hid (SK front X4.heap.size wD (.slice aG P.length dG) P) := SK.on HG9.out hkD
      have SH6D : Hid (ShK X4.heap.size wD.heap.size wD (.slice aG P.length dG) P) := shK_of HGD.out
      have HND : Hid (adP wD (.slice aG P.length dG) P).Nodup := by show List.Nodup _; rw [adP_keep HG9.out hkD]; exact HN9.out
      have hz9D : w9.heap.size ≤ wD.heap.size := hmD.size
      obtain ⟨hwD, cAD, cSD, HSD⟩ := FB.out _ hBD
      have gD := K6D.out.g0.1
      clear hmD hkD SH49 K69 HG9 SH69 HN9 x9 hw7
      generalize 1 + cntP p = cnt at *
      have hneg : ¬ ((cnt : Int) < 0) := by omega
      go_wp2_with fail
      refine (eqProgram _ _ (.slice aG P.length dG) (.slice aS P.length dS) P HPM.out _ HGD.out HSD).mono ?_
      rintro e wE ⟨rfl, hbE⟩
      have hBE : Below X3.heap.size X3 wE := below_over hBD hbE
      have K6E : Hid (Cells wE w6.heap.size [.slice aG P.length dG]) := K6D.out.on hbE
      have SH6E : Hid (ShK X4.heap.size wD.heap.size wE (.slice aG P.length dG) P) := SH6D.out.mrk (Mrk.of hbE)
      have HNE : Hid (adP wE (.slice aG P.length dG) P).Nodup := by show List.Nodup _; rw [adP_keep HGD.out (Keep.of hbE)]; exact HND.out
      have hzDE : wD.heap.size ≤ wE.heap.size := hbE.size
      have gE := K6E.out.g0.1
      clear hbE K6D HGD SH6D HND hwD cAD cSD HSD gD
      go_wp2_with fail
      refine (markProgramE X4.heap.size wD.heap.size aG dG P HPN.out _ SH6E.out HNE.out).mono ?_
      rintro e wF ⟨rfl, hmF, hexF⟩
      have hBF : Below X3.heap.size X3 wF := hBE.trans (hmF.below (by omega) hBE.size)
      have K6F : Hid (wF.cell? ⟨w6.heap.size, 0, none⟩ = some (.slice aG P.length dG)) := hmF.slice gE
      have SH6F : Hid (ShK X4.heap.size wD.heap.size wF (.slice aG P.length dG) P) := SH6E.out.mrk hmF
      have HELF : Hid (Hel wF (adP wF (.slice aG P.length dG) P) 1) := by
        show Hel _ _ _
        rw [adP_mrk hmF SH6E.out]
        exact fun i q h => hexF.hit i q h
      have gF := K6F.out
      clear hmF hexF K6E SH6E HNE gE
      generalize hcg : 1 + cntP P = cng at *
      have HCG : Hid (1 + cntP P = cng) := hcg
      have hneg2 : ¬ ((cng : Int) < 0) := by omega
      clear hcg
      go_wp2_with fail
      refine (heldProgramE X4.heap.size wD.heap.size aG dG P HPN.out _ SH6F.out HELF.out).mono ?_
      rintro e wG ⟨rfl, hbG⟩
      rw [HCG.out]
      have hBG : Below X3.heap.size X3 wG := below_over hBF hbG
      have K6G : Hid (wG.cell? ⟨w6.heap.size, 0, none⟩ = some (.slice aG P.length dG)) := (hbG.cell (cell_lt K6F.out)).trans K6F.out
      have SH6G : Hid (ShK X4.heap.size wD.heap.size wG (.slice aG P.length dG) P) := SH6F.out.mrk (Mrk.of hbG)
      have HELG : Hid (Hel wG (adP wG (.slice aG P.length dG) P) 1) := by
        show Hel _ _ _
        rw [adP_mrk (Mrk.of (B1 := X4.heap.size) (B2 := wD.heap.size) hbG) SH6F.out]
        exact Hel.on HELF.out hbG
      obtain ⟨hwG, cAG, _, _⟩ := FB.out _ hBG
      clear hbG K6F SH6F HELF gF
      go_wp2_with fail
      refine (toProgram p a cap HSM.out _ (SK.on HIN.out (Keep.of hwG))).mono ?_
      rintro e wH ⟨vH, rfl, hvH, hbH⟩
      obtain ⟨aH, dH, rfl⟩ := hvH.form
      have HVH : Hid (SK front wG.heap.size wH (.slice aH p.length dH) p) := hvH
      have hBH : Below X3.heap.size X3 wH := below_over hBG hbH
      clear hvH cAG
      go_wp2_with fail
      refine (HIF.out wG.heap.size aH dH _ HVH.out).mono ?_
      rintro e wI ⟨vI, rfl, hvI, _, hbI⟩
      obtain ⟨aI, dI, rfl⟩ := hvI.form
      obtain ⟨XI, hXI⟩ : ∃ XI, XI = wI.alloc (.cells #[.slice aI P.length dI] 28) := ⟨_, rfl⟩
      have hbXI : Below wI.heap.size wI XI := by rw [hXI]; exact (Below.refl _ _).alloc (Nat.le_refl _) _
      have hbGI : Below wG.heap.size wG XI := below_over (below_over hbH hbI) hbXI
      have hBI : Below X3.heap.size X3 XI := below_over hBG hbGI
      have HVI : Hid (SK front wH.heap.size XI (.slice aI P.length dI) P) := SK.on hvI (Keep.of hbXI)
      have K6I : Hid (XI.cell? ⟨w6.heap.size, 0, none⟩ = some (.slice aG P.length dG)) := (hbGI.cell (cell_lt K6G.out)).trans K6G.out
      have SH6I : Hid (ShK X4.heap.size wD.heap.size XI (.slice aG P.length dG) P) := SH6G.out.mrk (Mrk.of hbGI)
      have HELI : Hid (Hel XI (adP XI (.slice aG P.length dG) P) 1) := by
        show Hel _ _ _
        rw [adP_mrk (Mrk.of (B1 := X4.heap.size) (B2 := wD.heap.size) hbGI) SH6G.out]
        exact Hel.on HELG.out hbGI
      obtain ⟨hwI, _, cSI, HSI⟩ := FB.out _ hBI
      have cSI' : (wI.alloc (.cells #[.slice aI P.length dI] 28)).cell? ⟨kS, 0, none⟩ = some (.slice aS P.length dS) := by rw [← hXI]; exact cSI
      clear hbH hbI hbXI hbGI hvI K6G SH6G HELG
      go_wp2_with fail
      rw [← hXI]
      clear hXI cSI'
      refine (eqProgram _ _ (.slice aI P.length dI) (.slice aS P.length dS) P HPM.out _ HVI.out HSI).mono ?_
      rintro e wJ ⟨rfl, hbJ⟩
      have hwJ : Below w.heap.size w wJ := below_over hwI hbJ
      have gJ := (hbJ.cell (cell_lt K6I.out)).trans K6I.out
      have SH6J : Hid (ShK X4.heap.size wD.heap.size wJ (.slice aG P.length dG) P) := SH6I.out.mrk (Mrk.of hbJ)
      have HELJ : Hid (Hel wJ (adP wJ (.slice aG P.length dG) P) 1) := by
        show Hel _ _ _
        rw [adP_mrk (Mrk.of (B1 := X4.heap.size) (B2 := wD.heap.size) hbJ) SH6I.out]
        exact Hel.on HELI.out hbJ
      clear hbJ K6I SH6I HELI HVI HSI cSI
      go_wp2_with fail
      refine (heldProgramE X4.heap.size wD.heap.size aG dG P HPN.out _ SH6J.out HELJ.out).mono ?_
      rintro e wK ⟨rfl, hbK⟩
      rw [HCG.out]
      have hwK : Below w.heap.size w wK := below_over hwJ hbK
      clear hbK
      go_wp2
      go_ret
      exact ⟨rfl, hwK⟩
  · have HSZ : Hid (szR (szP p) 1048576 = -1) := szR_no (Int.not_le.1 hsz)
    go_enter Try.func3, Try.ntmps3
    go_wp2_with fail
    rw [← hW]
    clear hW
    refine (szProgram wide 0 a cap p HS.out _ (SK.on HIN.out (Keep.of hwW))).mono ?_
    rw [HSZ.out]
    rintro e w1 ⟨rfl, hb1⟩
    have hw1 : Below w.heap.size w w1 := below_over hwW hb1
    clear hb1
    go_wp2
    go_ret
    exact ⟨rfl, hw1⟩
end Pg
end Go.Proofs.Ytdomclicgajihaa

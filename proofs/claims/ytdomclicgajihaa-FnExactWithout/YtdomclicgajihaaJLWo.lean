/- The walk of the law FnExactWithout. -/
import Derived.Test.YtdomclicgajihaaJZd7
import Derived.Test.YtdomclicgajihaaJLSng
import Derived.Test.YtdomclicgajihaaJPm2
import Derived.Deep.RegionWith
namespace Go.Proofs.Ytdomclicgajihaa
namespace Pg
open Go.ChangeShapes Go.WideShapes Go.ChangeAt Go.RowKit St

theorem woP_sz (L : List Int) (p : Prg) : szP (woP L p) ≤ szP p := by
  have h1 : ∀ (l : List Meth) (f : Meth → Bool), sumN ((l.filter f).map szM) ≤ sumN (l.map szM) := by
    intro l f
    induction l with
    | nil => exact Nat.le_refl _
    | cons m l ih =>
      rw [List.filter_cons]
      split
      · simp only [List.map_cons, sumN, List.foldr_cons] at ih ⊢; omega
      · simp only [List.map_cons, sumN, List.foldr_cons] at ih ⊢; omega
  have hC : ∀ i c, szC (wo L i c) ≤ szC c := fun i c => by
    have h2 := h1 c.meths (fun m => !decide ((i : Int) * 20 + m.name ∈ L))
    have h3 := List.length_filter_le (fun m => !decide ((i : Int) * 20 + m.name ∈ L)) c.meths
    unfold szC szMs wo
    dsimp only
    omega
  have key : ∀ (l : List Cls) (f : Nat → Cls → Cls), (∀ i c, szC (f i c) ≤ szC c) → sumN ((l.mapIdx f).map szC) ≤ sumN (l.map szC) := by
    intro l
    induction l with
    | nil => intro f _; exact Nat.le_refl _
    | cons c l ih =>
      intro f hf
      have h4 := ih (fun i => f (i + 1)) (fun i c => hf (i + 1) c)
      have h5 := hf 0 c
      simp only [List.mapIdx_cons, List.map_cons, sumN, List.foldr_cons] at h4 ⊢
      omega
  have := key p (fun i c => wo L i c) hC
  unfold szP woP
  rw [List.length_mapIdx]
  omega
theorem wthP_sz (L : List Int) (p : Prg) : szP (wthP L p) ≤ szP p := by
  unfold wthP
  split
  · exact woP_sz L p
  · simp [szP, sumN]

set_option maxRecDepth 100000 in
set_option maxHeartbeats 4000000 in
theorem wthLaw (a : Option Addr) (cap : Nat) (p : Prg) (hs : SaneP p) (a' : Option Addr) (cap' : Nat) (L : List Int) (hmaxv : L.length ≤ 9223372036854775807) (w : World) (hin : SK wide 0 w (.slice a p.length cap) p) (hi : 0 < L.length → ∃ b o, a' = some ⟨b, o, none⟩ ∧ IRow w b o L) :
    Calls Try.prog 4 #[.agg #[.slice a p.length cap], .slice a' L.length cap'] w fun e w' => e = .returned (.bool true) ∧ Below w.heap.size w w' := by
  have HIN : Hid (SK wide 0 w (.slice a p.length cap) p) := hin
  have HS : Hid (SaneP p) := hs
  have HI : Hid (0 < L.length → ∃ b o, a' = some ⟨b, o, none⟩ ∧ IRow w b o L) := hi
  clear hin hs hi
  obtain ⟨W, hW⟩ : ∃ W, W = w.alloc (.cells #[.slice a p.length cap] 24) := ⟨_, rfl⟩
  have hwW : Below w.heap.size w W := by rw [hW]; exact (Below.refl _ _).alloc (Nat.le_refl _) _
  have L0 : Hid (Cells W w.heap.size [.slice a p.length cap]) := by rw [hW]; exact Cells.new w _ rfl _ _
  by_cases hbv : (1048576 : Int) < (L.length : Int)
  · go_enter Try.func4, Try.ntmps4
    go_wp2
    go_ret
    exact ⟨rfl, (Below.refl _ _).alloc (Nat.le_refl _) _⟩
  have hlv : L.length ≤ 1048576 := by omega
  have hirow : ∀ {u : World}, Below w.heap.size w u → 0 < L.length → ∃ b o, a' = some ⟨b, o, none⟩ ∧ IRow u b o L := fun hb h0 => by
    obtain ⟨b, o, e, hx⟩ := HI.out h0
    exact ⟨b, o, e, hx.on hb⟩
  have HIROW : Hid (∀ {u : World}, Below w.heap.size w u → 0 < L.length → ∃ b o, a' = some ⟨b, o, none⟩ ∧ IRow u b o L) := hirow
  clear hirow HI
  by_cases hsz : (szP p : Int) ≤ 1048576
  · have HSN : Hid (szP p ≤ 1048576) := by show _ ≤ _; omega
    have HSM : Hid (SmallP p) := SmallP.of HSN.out
    have HSZ : Hid (szR (szP p) 1048576 = 1048576 - (szP p : Int)) := szR_yes hsz
    have hq : 0 ≤ 1048576 - (szP p : Int) := by omega
    obtain ⟨P, HPN, HSF, HIF⟩ : ∃ P : Prg, Hid (szP P ≤ 1048576) ∧
        Hid (∀ B v d g c w, SK front B w (.slice v p.length d) p → IRow w g 0 L → g < w.heap.size → Calls Try.prog 12 #[.agg #[.slice v p.length d], .slice (some ⟨g, 0, none⟩) L.length c] w fun e w' => ∃ v, e = .returned (.agg #[v]) ∧ SK front w.heap.size w' v P ∧ Below w.heap.size w w') ∧
        Hid (∀ B v d g c w, SK front B w (.slice v p.length d) p → IRow w g 0 L → g < w.heap.size → Calls Try.prog 14 #[.agg #[.slice v p.length d], .slice (some ⟨g, 0, none⟩) L.length c] w fun e w' => ∃ v, e = .returned (.agg #[v]) ∧ SK front w.heap.size w' v P ∧ (adP w' v P).Nodup ∧ Below w.heap.size w w') :=
      ⟨wthP L p, Nat.le_trans (wthP_sz L p) HSN.out, fun B v d g c w h k l => specWithoutP B p v d HSM.out g c L hlv w h k l, fun B v d g c w h k l => implWithout B p v d HSM.out g c L hlv w h k l⟩
    have HCT : Hid (1 + cntP p + L.length ≤ 6000000) := by show _ ≤ _; have := cntP_le p; have := HSN.out; omega
    have HCP : Hid (1 + cntP p ≤ 4000000) := by show _ ≤ _; have := cntP_le p; have := HSN.out; omega
    have HPM : Hid (SmallP P) := SmallP.of HPN.out
    go_enter Try.func4, Try.ntmps4
    go_wp2_with fail
    rw [← hW]
    clear hW
    refine (szProgram wide 0 a cap p HS.out _ (SK.on HIN.out (Keep.of hwW))).mono ?_
    rw [HSZ.out]
    rintro e w1 ⟨rfl, hb1⟩
    have hw1 : Below w.heap.size w w1 := below_over hwW hb1
    have hW1 : Below W.heap.size W w1 := hb1
    obtain ⟨c1, _⟩ := (L0.out.on hW1).g0
    clear hb1 HSZ
    go_wp2_with fail
    refine (toProgram p a cap HSM.out _ (SK.on HIN.out (Keep.of hw1))).mono ?_
    rintro e w2 ⟨v2, rfl, hv2, hb2⟩
    obtain ⟨a2, d2, rfl⟩ := hv2.form
    have hw2 : Below w.heap.size w w2 := below_over hw1 hb2
    have hW2 : Below W.heap.size W w2 := below_over hW1 hb2
    have HV2 : Hid (SK front w1.heap.size w2 (.slice a2 p.length d2) p) := hv2
    clear hb2 hv2 c1
    go_wp2_with fail
    refine (toInts a' cap' L hlv _ (HIROW.out hw2)).mono ?_
    rintro e wi ⟨rfl, hii, _, hgi, hbi⟩
    have hwi : Below w.heap.size w wi := below_over hw2 hbi
    have hWi : Below W.heap.size W wi := below_over hW2 hbi
    have HVi : Hid (SK front w1.heap.size wi (.slice a2 p.length d2) p) := SK.on HV2.out (Keep.of hbi)
    have HIi : Hid (IRow wi w2.heap.size 0 L) := hii
    clear hbi hii hw2 hW2 HV2
    go_wp2_with fail
    refine (HSF.out w1.heap.size a2 d2 _ _ _ HVi.out HIi.out hgi).mono ?_
    rintro e w3 ⟨vS, rfl, hvS, hb3⟩
    obtain ⟨aS, dS, rfl⟩ := hvS.form
    obtain ⟨X3, hX3⟩ : ∃ X3, X3 = w3.alloc (.cells #[.slice aS P.length dS] 28) := ⟨_, rfl⟩
    have hbX3 : Below w3.heap.size w3 X3 := by rw [hX3]; exact (Below.refl _ _).alloc (Nat.le_refl _) _
    have S3 : Hid (Cells X3 w3.heap.size [.slice aS P.length dS]) := by show Cells _ _ _; rw [hX3]; exact Cells.new w3 _ rfl _ _
    have hw3 : Below w.heap.size w X3 := below_over (below_over hwi hb3) hbX3
    have hW3 : Below W.heap.size W X3 := below_over (below_over hWi hb3) hbX3
    have HS3 : Hid (SK front wi.heap.size X3 (.slice aS P.length dS) P) := SK.on hvS (Keep.of hbX3)
    have hs3 : w3.heap.size < X3.heap.size := St.cell_lt S3.out.g0.1
    obtain ⟨kS, hkS⟩ : ∃ kS, w3.heap.size = kS := ⟨_, rfl⟩
    rw [hkS] at S3 hs3
    have c3 := (L0.out.on hW3).g0.1
    clear hb3 HVi HIi hgi hvS hbX3 hwi hWi
    have c3' : (w3.alloc (.cells #[.slice aS P.length dS] 28)).cell? ⟨w.heap.size, 0, none⟩ = some (.slice a p.length cap) := by rw [← hX3]; exact c3
    go_wp2_with fail
    try rw [hkS]
    rw [← hX3]
    clear hX3 c3' hkS
    refine (toProgram p a cap HSM.out _ (SK.on HIN.out (Keep.of hw3))).mono ?_
    rintro e w4 ⟨v4, rfl, hv4, hb4⟩
    obtain ⟨a4, d4, rfl⟩ := hv4.form
    obtain ⟨X4, hX4⟩ : ∃ X4, X4 = w4.alloc (.cells #[.slice a4 p.length d4] 28) := ⟨_, rfl⟩
    have hbX4 : Below w4.heap.size w4 X4 := by rw [hX4]; exact (Below.refl _ _).alloc (Nat.le_refl _) _
    have K4 : Hid (Cells X4 w4.heap.size [.slice a4 p.length d4]) := by show Cells _ _ _; rw [hX4]; exact Cells.new w4 _ rfl _ _
    have hb34 : Below X3.heap.size X3 X4 := below_over hb4 hbX4
    have HV4 : Hid (SK front X3.heap.size X4 (.slice a4 p.length d4) p) := SK.on hv4 (Keep.of hbX4)
    have SH4 : Hid (ShK X3.heap.size w4.heap.size X4 (.slice a4 p.length d4) p) := (shK_of hv4).mrk (Mrk.of hbX4)
    have hz34 : X3.heap.size ≤ w4.heap.size := hb4.size
    have hz4 : w4.heap.size < X4.heap.size := St.cell_lt K4.out.g0.1
    have FB : Hid (∀ Y, Below X3.heap.size X3 Y → Below w.heap.size w Y ∧ Y.cell? ⟨w.heap.size, 0, none⟩ = some (.slice a p.length cap) ∧ Y.cell? ⟨kS, 0, none⟩ = some (.slice aS P.length dS) ∧ SK front wi.heap.size Y (.slice aS P.length dS) P) := fun Y hY =>
      ⟨below_over hw3 hY, (hY.cell (cell_lt c3)).trans c3, ((S3.out.on hY).g0.1), SK.on HS3.out (Keep.of hY)⟩
    go_wp2_with fail
    rw [← hX4]
    clear hX4 hv4 hbX4 hb4
    refine (toInts a' cap' L hlv _ (HIROW.out (below_over hw3 hb34))).mono ?_
    rintro e X5 ⟨rfl, hi5, hr5, hg5, hb45⟩
    have hb35 : Below X3.heap.size X3 X5 := below_over hb34 hb45
    have HV5 : Hid (SK front X3.heap.size X5 (.slice a4 p.length d4) p) := SK.on HV4.out (Keep.of hb45)
    have SH5 : Hid (ShK X3.heap.size w4.heap.size X5 (.slice a4 p.length d4) p) := SH4.out.mrk (Mrk.of hb45)
    have K5 : Hid (Cells X5 w4.heap.size [.slice a4 p.length d4]) := K4.out.on hb45
    have HI5 : Hid (IRow X5 X4.heap.size 0 L) := hi5
    have HR5 : Hid (Room X5 X4.heap.size L.length) := hr5
    obtain ⟨g1, hg1⟩ : ∃ g1, X4.heap.size = g1 := ⟨_, rfl⟩
    rw [hg1] at HI5 HR5 hg5 hz4
    clear hb45 hb34 HV4 SH4 K4 hi5 hr5
    obtain ⟨k5, _⟩ := K5.out.g0
    rw [hg1]
    go_wp2_with fail
    refine (HIF.out X3.heap.size a4 d4 _ _ _ HV5.out HI5.out hg5).mono ?_
    rintro e w6 ⟨vG, rfl, hvG, hndG, hb6⟩
    clear k5
    obtain ⟨aG, dG, rfl⟩ := hvG.form
    obtain ⟨X6, hX6⟩ : ∃ X6, X6 = w6.alloc (.cells #[.slice aG P.length dG] 28) := ⟨_, rfl⟩
    have hbX6 : Below w6.heap.size w6 X6 := by rw [hX6]; exact (Below.refl _ _).alloc (Nat.le_refl _) _
    have K6 : Hid (Cells X6 w6.heap.size [.slice aG P.length dG]) := by show Cells _ _ _; rw [hX6]; exact Cells.new w6 _ rfl _ _
    have hb46 : Below X5.heap.size X5 X6 := below_over hb6 hbX6
    have hB6 : Below X3.heap.size X3 X6 := below_over hb35 hb46
    have HG6 : Hid (SK front X5.heap.size X6 (.slice aG P.length dG) P) := SK.on hvG (Keep.of hbX6)
    have SH6 : Hid (ShK X5.heap.size w6.heap.size X6 (.slice aG P.length dG) P) := (shK_of hvG).mrk (Mrk.of hbX6)
    have HN6 : Hid (adP X6 (.slice aG P.length dG) P).Nodup := by show List.Nodup _; rw [adP_keep hvG (Keep.of hbX6)]; exact hndG
    have K46 : Hid (Cells X6 w4.heap.size [.slice a4 p.length d4]) := K5.out.on hb46
    have HV6 : Hid (SK front X3.heap.size X6 (.slice a4 p.length d4) p) := SK.on HV5.out (Keep.of hb46)
    have SH46 : Hid (ShK X3.heap.size w4.heap.size X6 (.slice a4 p.length d4) p) := SH5.out.mrk (Mrk.of hb46)
    have hz46 : X5.heap.size ≤ w6.heap.size := hb6.size
    have HI6 : Hid (IRow X6 g1 0 L) := HI5.out.on hb46
    have HR6 : Hid (Room X6 g1 L.length) := HR5.out.on hb46
    have hz6 : w6.heap.size < X6.heap.size := St.cell_lt K6.out.g0.1
    obtain ⟨hw6, cA6, cS6, HS6⟩ := FB.out _ hB6
    have cS6' : (w6.alloc (.cells #[.slice aG P.length dG] 28)).cell? ⟨kS, 0, none⟩ = some (.slice aS P.length dS) := by rw [← hX6]; exact cS6
    go_wp2_with fail
    rw [← hX6]
    clear hX6 cS6' hvG hndG hb6 hbX6 HV5 SH5 K5 HI5 HR5 hb46 hb35
    refine (eqProgram _ _ (.slice aG P.length dG) (.slice aS P.length dS) P HPM.out _ HG6.out HS6).mono ?_
    rintro e w7 ⟨rfl, hb7⟩
    have hB7 : Below X3.heap.size X3 w7 := below_over hB6 hb7
    have K47 : Hid (Cells w7 w4.heap.size [.slice a4 p.length d4]) := K46.out.on hb7
    have HV7 : Hid (SK front X3.heap.size w7 (.slice a4 p.length d4) p) := SK.on HV6.out (Keep.of hb7)
    have SH47 : Hid (ShK X3.heap.size w4.heap.size w7 (.slice a4 p.length d4) p) := SH46.out.mrk (Mrk.of hb7)
    have K67 : Hid (Cells w7 w6.heap.size [.slice aG P.length dG]) := K6.out.on hb7
    have HG7 : Hid (SK front X5.heap.size w7 (.slice aG P.length dG) P) := SK.on HG6.out (Keep.of hb7)
    have SH67 : Hid (ShK X5.heap.size w6.heap.size w7 (.slice aG P.length dG) P) := SH6.out.mrk (Mrk.of hb7)
    have HN7 : Hid (adP w7 (.slice aG P.length dG) P).Nodup := by show List.Nodup _; rw [adP_keep HG6.out (Keep.of hb7)]; exact HN6.out
    obtain ⟨hw7, cA7, cS7, HS7⟩ := FB.out _ hB7
    have HI7 : Hid (IRow w7 g1 0 L) := HI6.out.on hb7
    have HR7 : Hid (Room w7 g1 L.length) := HR6.out.on hb7
    obtain ⟨x7, _⟩ := K47.out.g0
    have lx : w4.heap.size < w7.heap.size := St.cell_lt x7
    have hz67 : X6.heap.size ≤ w7.heap.size := hb7.size
    clear hb7 HI6 HR6 K46 HV6 SH46 K6 HG6 SH6 HN6 HS6 cA6 cS6 hw6 HS7 cS7
    go_wp2_with fail
    go_region_with (first
      | (go_at_call 7; refine (toProgram p a cap HSM.out _ ?hx).mono ?_; (case hx => exact SK.on HIN.out (Keep.of hw7.drew)); rintro e w8 ⟨v8, rfl, hv8, hb8⟩; have x8 := (hb8.cell (p := ⟨w4.heap.size, 0, none⟩) lx).trans x7)
      | (go_at_call 9; have q3 := SK.on HV7.out (Keep.of (below_over (Below.refl _ _).drew hb8)); refine (eqProgram X3.heap.size _ (.slice a4 p.length d4) _ p HSM.out _ q3 hv8).mono ?_; rintro e w9 ⟨rfl, hb9⟩))
    all_goals
      have hb79 : Below w7.heap.size w7 w9 := below_over (below_over (Below.refl _ _).drew hb8) hb9
      have hB9 : Below X3.heap.size X3 w9 := below_over hB7 hb79
      obtain ⟨x9, _⟩ := (K47.out.on hb79).g0
      have SH49 : Hid (ShK X3.heap.size w4.heap.size w9 (.slice a4 p.length d4) p) := SH47.out.mrk (Mrk.of hb79)
      have K69 : Hid (Cells w9 w6.heap.size [.slice aG P.length dG]) := K67.out.on hb79
      have HG9 : Hid (SK front X5.heap.size w9 (.slice aG P.length dG) P) := SK.on HG7.out (Keep.of hb79)
      have SH69 : Hid (ShK X5.heap.size w6.heap.size w9 (.slice aG P.length dG) P) := SH67.out.mrk (Mrk.of hb79)
      have HN9 : Hid (adP w9 (.slice aG P.length dG) P).Nodup := by show List.Nodup _; rw [adP_keep HG7.out (Keep.of hb79)]; exact HN7.out
      have hz79 : w7.heap.size ≤ w9.heap.size := hb79.size
      have HI9 : Hid (IRow w9 g1 0 L) := HI7.out.on hb79
      have HR9 : Hid (Room w9 g1 L.length) := HR7.out.on hb79
      have hw9 : Below w.heap.size w w9 := below_over hw7 hb79
      clear hb8 hb9 hv8 x7 cA7 q3 x8 hb79 K47 HV7 SH47 K67 HG7 SH67 HN7 lx HI7 HR7
      go_wp2_with fail
      refine (toInts a' cap' L hlv _ (HIROW.out hw9)).mono ?_
      rintro e wj ⟨rfl, hij, _, _, hbj⟩
      have HI9j : Hid (IRow wj g1 0 L) := HI9.out.on hbj
      have HJ : Hid (IRow wj w9.heap.size 0 L) := hij
      go_wp2_with fail
      refine (eqInts g1 w9.heap.size L.length L.length L hlv _ HI9j.out HJ.out).mono ?_
      rintro e wk ⟨rfl, hbk⟩
      have hb9k : Below w9.heap.size w9 wk := below_over hbj hbk
      have hBk : Below X3.heap.size X3 wk := below_over hB9 hb9k
      have xk := (hb9k.cell (p := ⟨w4.heap.size, 0, none⟩) (cell_lt x9)).trans x9
      have SH4k : Hid (ShK X3.heap.size w4.heap.size wk (.slice a4 p.length d4) p) := SH49.out.mrk (Mrk.of hb9k)
      have K6k : Hid (Cells wk w6.heap.size [.slice aG P.length dG]) := K69.out.on hb9k
      have HGk : Hid (SK front X5.heap.size wk (.slice aG P.length dG) P) := SK.on HG9.out (Keep.of hb9k)
      have SH6k : Hid (ShK X5.heap.size w6.heap.size wk (.slice aG P.length dG) P) := SH69.out.mrk (Mrk.of hb9k)
      have HNk : Hid (adP wk (.slice aG P.length dG) P).Nodup := by show List.Nodup _; rw [adP_keep HG9.out (Keep.of hb9k)]; exact HN9.out
      have hz9k : w9.heap.size ≤ wk.heap.size := hb9k.size
      have HRk : Hid (Room wk g1 L.length) := HR9.out.on hb9k
      clear hij hbj HI9 HR9 HI9j HJ hbk hb9k SH49 K69 HG9 SH69 HN9 x9 hw9
      go_wp2_with fail
      refine (markProgram' X3.heap.size w4.heap.size a4 d4 p HSN.out _ SH4k.out).mono ?_
      rintro e wC ⟨rfl, hmC⟩
      have hBC : Below X3.heap.size X3 wC := hBk.trans (hmC.below (Nat.le_refl _) hBk.size)
      have hkC : Keep X5.heap.size wk wC := hmC.keep.mono (by omega)
      have K6C : Hid (Cells wC w6.heap.size [.slice aG P.length dG]) := hmC.cells (.inr (by omega)) (by omega) K6k.out
      have HGC : Hid (SK front X5.heap.size wC (.slice aG P.length dG) P) := SK.on HGk.out hkC
      have HNC : Hid (adP wC (.slice aG P.length dG) P).Nodup := by show List.Nodup _; rw [adP_keep HGk.out hkC]; exact HNk.out
      have hzkC : wk.heap.size ≤ wC.heap.size := hmC.size
      have HRC : Hid (Room wC g1 L.length) := hmC.room (.inr (by omega)) HRk.out
      clear hmC hkC SH4k K6k HGk SH6k HNk xk hw7 HRk
      generalize hcq : 1 + cntP p = cnt at *
      go_wp2_with fail
      refine (imark_at g1 L.length cnt L.length HCP.out hlv _ HRC.out).mono ?_
      rintro e wD ⟨rfl, _, _, hoD⟩
      have hbCD : Below X3.heap.size wC wD := hoD.below (by omega)
      have hBD : Below X3.heap.size X3 wD := hBC.trans hbCD
      have hkD : Keep X5.heap.size wC wD := ⟨by rw [hoD.size]; exact Nat.le_refl _, fun k h1 h2 => hoD.block k (by omega)⟩
      have K6D : Hid (Cells wD w6.heap.size [.slice aG P.length dG]) := zcells K6C.out (hoD.block _ (by omega))
      have HGD : Hid (SK front X5.heap.size wD (.slice aG P.length dG) P) := SK.on HGC.out hkD
      have SH6D : Hid (ShK X5.heap.size wD.heap.size wD (.slice aG P.length dG) P) := shK_of HGD.out
      have HND : Hid (adP wD (.slice aG P.length dG) P).Nodup := by show List.Nodup _; rw [adP_keep HGC.out hkD]; exact HNC.out
      have hz9D : w9.heap.size ≤ wD.heap.size := by rw [hoD.size]; omega
      obtain ⟨hwD, cAD, cSD, HSD⟩ := FB.out _ hBD
      have gD := K6D.out.g0.1
      clear hoD hbCD hkD K6C HGC HNC HRC hcq
      have hneg : ¬ ((cnt : Int) + (L.length : Int) < 0) := by omega
      go_wp2_with fail
      refine (eqProgram _ _ (.slice aG P.length dG) (.slice aS P.length dS) P HPM.out _ HGD.out HSD).mono ?_
      rintro e wE ⟨rfl, hbE⟩
      have hBE : Below X3.heap.size X3 wE := below_over hBD hbE
      have K6E : Hid (Cells wE w6.heap.size [.slice aG P.length dG]) := K6D.out.on hbE
      have SH6E : Hid (ShK X5.heap.size wD.heap.size wE (.slice aG P.length dG) P) := SH6D.out.mrk (Mrk.of hbE)
      have HNE : Hid (adP wE (.slice aG P.length dG) P).Nodup := by show List.Nodup _; rw [adP_keep HGD.out (Keep.of hbE)]; exact HND.out
      have hzDE : wD.heap.size ≤ wE.heap.size := hbE.size
      have gE := K6E.out.g0.1
      clear hbE K6D HGD SH6D HND hwD cAD cSD HSD gD
      go_wp2_with fail
      refine (markProgramE X5.heap.size wD.heap.size aG dG P HPN.out _ SH6E.out HNE.out).mono ?_
      rintro e wF ⟨rfl, hmF, hexF⟩
      have hBF : Below X3.heap.size X3 wF := hBE.trans (hmF.below (by omega) hBE.size)
      have K6F : Hid (wF.cell? ⟨w6.heap.size, 0, none⟩ = some (.slice aG P.length dG)) := hmF.slice gE
      have SH6F : Hid (ShK X5.heap.size wD.heap.size wF (.slice aG P.length dG) P) := SH6E.out.mrk hmF
      have HELF : Hid (Hel wF (adP wF (.slice aG P.length dG) P) 1) := by
        show Hel _ _ _
        rw [adP_mrk hmF SH6E.out]
        exact fun i q h => hexF.hit i q h
      have gF := K6F.out
      clear hmF hexF K6E SH6E HNE gE
      generalize hcg : 1 + cntP P = cng at *
      have HCG : Hid (1 + cntP P = cng) := hcg
      have hneg2 : ¬ ((cng : Int) < 0) := by omega
      clear hcg
      go_wp2_with fail
      refine (heldProgramE X5.heap.size wD.heap.size aG dG P HPN.out _ SH6F.out HELF.out).mono ?_
      rintro e wG ⟨rfl, hbG⟩
      rw [HCG.out]
      have hBG : Below X3.heap.size X3 wG := below_over hBF hbG
      have K6G : Hid (wG.cell? ⟨w6.heap.size, 0, none⟩ = some (.slice aG P.length dG)) := (hbG.cell (cell_lt K6F.out)).trans K6F.out
      have SH6G : Hid (ShK X5.heap.size wD.heap.size wG (.slice aG P.length dG) P) := SH6F.out.mrk (Mrk.of hbG)
      have HELG : Hid (Hel wG (adP wG (.slice aG P.length dG) P) 1) := by
        show Hel _ _ _
        rw [adP_mrk (Mrk.of (B1 := X5.heap.size) (B2 := wD.heap.size) hbG) SH6F.out]
        exact Hel.on HELF.out hbG
      obtain ⟨hwG, cAG, _, _⟩ := FB.out _ hBG
      clear hbG K6F SH6F HELF gF
      go_wp2_with fail
      refine (toProgram p a cap HSM.out _ (SK.on HIN.out (Keep.of hwG))).mono ?_
      rintro e wH ⟨vH, rfl, hvH, hbH⟩
      obtain ⟨aH, dH, rfl⟩ := hvH.form
      have HVH : Hid (SK front wG.heap.size wH (.slice aH p.length dH) p) := hvH
      have hBH : Below X3.heap.size X3 wH := below_over hBG hbH
      clear hvH cAG
      go_wp2_with fail
      have hwH : Below w.heap.size w wH := below_over hwG hbH
      refine (toInts a' cap' L hlv _ (HIROW.out hwH)).mono ?_
      rintro e wh ⟨rfl, hih, _, hgh, hbh⟩
      have HIH : Hid (IRow wh wH.heap.size 0 L) := hih
      have HVh : Hid (SK front wG.heap.size wh (.slice aH p.length dH) p) := SK.on HVH.out (Keep.of hbh)
      clear hih
      go_wp2_with fail
      refine (HIF.out wG.heap.size aH dH _ _ _ HVh.out HIH.out hgh).mono ?_
      rintro e wI ⟨vI, rfl, hvI, _, hbI⟩
      obtain ⟨aI, dI, rfl⟩ := hvI.form
      obtain ⟨XI, hXI⟩ : ∃ XI, XI = wI.alloc (.cells #[.slice aI P.length dI] 28) := ⟨_, rfl⟩
      have hbXI : Below wI.heap.size wI XI := by rw [hXI]; exact (Below.refl _ _).alloc (Nat.le_refl _) _
      have hbGI : Below wG.heap.size wG XI := below_over (below_over (below_over hbH hbh) hbI) hbXI
      have hBI : Below X3.heap.size X3 XI := below_over hBG hbGI
      have HVI : Hid (SK front wh.heap.size XI (.slice aI P.length dI) P) := SK.on hvI (Keep.of hbXI)
      have K6I : Hid (XI.cell? ⟨w6.heap.size, 0, none⟩ = some (.slice aG P.length dG)) := (hbGI.cell (cell_lt K6G.out)).trans K6G.out
      have SH6I : Hid (ShK X5.heap.size wD.heap.size XI (.slice aG P.length dG) P) := SH6G.out.mrk (Mrk.of hbGI)
      have HELI : Hid (Hel XI (adP XI (.slice aG P.length dG) P) 1) := by
        show Hel _ _ _
        rw [adP_mrk (Mrk.of (B1 := X5.heap.size) (B2 := wD.heap.size) hbGI) SH6G.out]
        exact Hel.on HELG.out hbGI
      obtain ⟨hwI, _, cSI, HSI⟩ := FB.out _ hBI
      have cSI' : (wI.alloc (.cells #[.slice aI P.length dI] 28)).cell? ⟨kS, 0, none⟩ = some (.slice aS P.length dS) := by rw [← hXI]; exact cSI
      clear hbH hbh hbI hbXI hbGI hvI HIH HVh hgh hwH K6G SH6G HELG
      go_wp2_with fail
      rw [← hXI]
      clear hXI cSI'
      refine (eqProgram _ _ (.slice aI P.length dI) (.slice aS P.length dS) P HPM.out _ HVI.out HSI).mono ?_
      rintro e wJ ⟨rfl, hbJ⟩
      have hwJ : Below w.heap.size w wJ := below_over hwI hbJ
      have gJ := (hbJ.cell (cell_lt K6I.out)).trans K6I.out
      have SH6J : Hid (ShK X5.heap.size wD.heap.size wJ (.slice aG P.length dG) P) := SH6I.out.mrk (Mrk.of hbJ)
      have HELJ : Hid (Hel wJ (adP wJ (.slice aG P.length dG) P) 1) := by
        show Hel _ _ _
        rw [adP_mrk (Mrk.of (B1 := X5.heap.size) (B2 := wD.heap.size) hbJ) SH6I.out]
        exact Hel.on HELI.out hbJ
      clear hbJ K6I SH6I HELI HVI HSI cSI
      go_wp2_with fail
      refine (heldProgramE X5.heap.size wD.heap.size aG dG P HPN.out _ SH6J.out HELJ.out).mono ?_
      rintro e wK ⟨rfl, hbK⟩
      rw [HCG.out]
      have hwK : Below w.heap.size w wK := below_over hwJ hbK
      clear hbK
      go_wp2
      go_ret
      exact ⟨rfl, hwK⟩
  · have HSZ : Hid (szR (szP p) 1048576 = -1) := szR_no (Int.not_le.1 hsz)
    go_enter Try.func4, Try.ntmps4
    go_wp2_with fail
    rw [← hW]
    clear hW
    refine (szProgram wide 0 a cap p HS.out _ (SK.on HIN.out (Keep.of hwW))).mono ?_
    rw [HSZ.out]
    rintro e w1 ⟨rfl, hb1⟩
    have hw1 : Below w.heap.size w w1 := below_over hwW hb1
    clear hb1
    go_wp2
    go_ret
    exact ⟨rfl, hw1⟩
end Pg
end Go.Proofs.Ytdomclicgajihaa

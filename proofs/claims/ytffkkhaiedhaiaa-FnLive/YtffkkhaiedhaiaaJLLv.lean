/- The walk of the law FnLive: over bytes of at most 4096 cells it returns true, and nothing old has turned. -/
import Derived.Test.YtffkkhaiedhaiaaJLv6
import Derived.Test.YtffkkhaiedhaiaaJLv5
import Derived.Test.YtffkkhaiedhaiaaJHs0
import Derived.Deep.Cut
import Derived.Deep.CutRange
import Derived.Deep.CutBlock
import Derived.BigQuiet
namespace Go.Proofs.Ytffkkhaiedhaiaa
namespace Pg
open Go.ChangeShapes Go.WideShapes Go.ChangeAt Go.RowKit St Wd

set_option maxRecDepth 100000 in
theorem live_big (w : World) (a0 : Option Addr) (len cap : Nat) (hl : ¬ len ≤ 4096) :
    Calls Try.prog 4 #[.slice a0 len cap] w fun e w' => e = .returned (.bool true) ∧ Below w.heap.size w w' := by
  have hnb : decide ((4096 : Int) < (len : Int)) = true := by simp; omega
  go_enter Try.func4, Try.ntmps4
  go_wp2_with (go_at_call 6; refine (Cu.big_at _ _ _ _).mono ?_; rintro e w1 ⟨rfl, rfl⟩)
  go_ret
  exact ⟨rfl, Below.refl _ _⟩

set_option maxRecDepth 100000 in
set_option maxHeartbeats 8000000 in
theorem live_small (w : World) (a0 : Option Addr) (len cap : Nat) (hB : Cu.Bytes w.heap.size w a0 len) :
    Calls Try.prog 4 #[.slice a0 len cap] w fun e w' => e = .returned (.bool true) ∧ Below w.heap.size w w' := by
  have hl := hB.1
  have hnb : decide ((4096 : Int) < (len : Int)) = false := by simp; omega
  have HB : Hid (Cu.Bytes w.heap.size w a0 len) := hB
  obtain ⟨F, hF⟩ := hB.told
  have HF : Hid (Cu.Told F w a0 len) := hF
  clear hB hF
  go_enter Try.func4, Try.ntmps4
  go_wp2_with fail
  refine (Cu.big_at _ _ _ _).mono ?_
  rintro e w1 ⟨rfl, rfl⟩
  go_wp2_with fail
  refine (drawLive_at w.heap.size _ _ _ _ HB.out (Nat.le_refl _)).mono ?_
  rintro e w3 ⟨ga, ca, a, rfl, hra, hma, hga, hla, hb3⟩
  have HA3 : Hid (Row w3 ga 0 a) := hra
  have HM3 : Hid (Room w3 ga (a.length * 3)) := hma
  have hw3 : Below w.heap.size w w3 := hb3
  clear hra hma hb3 hnb hl HB
  go_wp2_with fail
  refine (implLiveIn ga ca a (by omega) _ HA3.out).mono ?_
  rintro e w4 ⟨x, rfl, ⟨gl, cl, rfl, _, _, hlv, _⟩, hb4⟩
  have HL4 : Hid (IRow w4 gl 0 (livA a)) := hlv
  have HA4 : Hid (Row w4 ga 0 a) := HA3.out.on hb4
  have HM4 : Hid (Room w4 ga (a.length * 3)) := HM3.out.on hb4
  have hw4 : Below w.heap.size w w4 := below_over hw3 hb4
  have hga4 : ga < w4.heap.size := Nat.lt_of_lt_of_le hga hb4.size
  have hlvl := livA_len a
  clear hlv hb4 HA3 HM3 hw3 hga
  go_wp2_with fail
  refine (specLiveIn ga ca a (by omega) _ HA4.out).mono ?_
  rintro e w5 ⟨x, rfl, ⟨g5, c5, rfl, _, _, hl5⟩, hb5⟩
  have hx5 : Below w4.heap.size w4 w5 := hb5
  go_wp2_with fail
  refine (likeSame gl g5 cl c5 (livA a) (by omega) _ (HL4.out.on hx5) hl5).mono ?_
  rintro e w6 ⟨rfl, hb6⟩
  have hx6 : Below w4.heap.size w4 w6 := below_over hx5 hb6
  have HA6 : Hid (Row w6 ga 0 a) := HA4.out.on hx6
  have HM6 : Hid (Room w6 ga (a.length * 3)) := HM4.out.on hx6
  have HL6 : Hid (IRow w6 gl 0 (livA a)) := HL4.out.on hx6
  have hw6 : Below w.heap.size w w6 := below_over hw4 hx6
  have hga6 : ga < w6.heap.size := Nat.lt_of_lt_of_le hga4 hx6.size
  clear hb6 hl5 hb5 hx5 hx6 HL4 HA4 HM4 hw4 hga4
  go_wp2_with fail
  refine (specCodeOk ga ca a (by omega) _ HA6.out).mono ?_
  rintro e w19 ⟨rfl, hb19⟩
  have HA19 : Hid (Row w19 ga 0 a) := HA6.out.on hb19
  have HM19 : Hid (Room w19 ga (a.length * 3)) := HM6.out.on hb19
  have HL19 : Hid (IRow w19 gl 0 (livA a)) := HL6.out.on hb19
  have hwx : Below w.heap.size w w19 := below_over hw6 hb19
  have hga19 : ga < w19.heap.size := Nat.lt_of_lt_of_le hga6 hb19.size
  clear hb19 HA6 HM6 HL6 hw6 hga6
  cases hok : Lay.codeOk a
  · have h1 : (livA a).length = 0 := by unfold livA; rw [hok]; rfl
    rw [h1]
    clear h1 hok
    go_wp2
    go_ret
    exact ⟨rfl, hwx⟩
  · have HOK : Hid (Lay.codeOk a = true) := hok
    have hNL : (livA a).length = a.length := livA_full hok
    have HLA : Hid (∀ p, p < a.length → (livA a)[p]? = some ((bn (lvB a p) 8 : Nat) : Int)) := fun p hp => livA_at hok hp
    rw [hNL]
    clear hok hNL hlvl
    generalize livA a = lv at *
    have hl40 := (Lay.ok_len HOK.out).2
    have hl01 := (Lay.ok_len HOK.out).1
    go_wp2_with fail
    refine (withMain_at ga ca a w19 HA19.out HM19.out hga19).mono ?_
    rintro e w20 ⟨bp, rfl, hsk, hb20⟩
    obtain ⟨W, hW⟩ : ∃ W, W = w20.alloc (.cells #[.slice (some ⟨bp, 0, none⟩) 1 1] 39) := ⟨_, rfl⟩
    have h20W : Below w20.heap.size w20 W := by rw [hW]; exact (Below.refl _ _).alloc (Nat.le_refl _) _
    have P0 : Hid (Cells W w20.heap.size [.slice (some ⟨bp, 0, none⟩) 1 1]) := by rw [hW]; exact Cells.new w20 _ rfl _ _
    have HSKW : Hid (SK front 0 W (.slice (some ⟨bp, 0, none⟩) (mainP a).length 1) (mainP a)) := SK.on hsk (Keep.of h20W)
    have hxW : Below w19.heap.size w19 W := below_over hb20 h20W
    have hok' : okP (mainP a) = true := mainP_ok HOK.out
    have HPO : Hid (okP (mainP a) = true) := hok'
    have HSMP : Hid (SmallP (mainP a)) := mainP_small (by omega)
    have hPl : (mainP a).length = 1 := rfl
    have HLW : Hid (IRow W gl 0 lv) := HL19.out.on hxW
    have HFW : Hid (Cu.Told F W a0 len) := HF.out.below (Nat.le_refl _) (below_over hwx hxW)
    have hwW : Below w.heap.size w W := below_over hwx hxW
    have hp0 : w20.heap.size < W.heap.size := by rw [hW]; simp
    -- the number of steps, and both runs
    obtain ⟨r, hr⟩ : ∃ r, r = Cu.pickF F len 1 30 := ⟨_, rfl⟩
    have hr0 : 0 ≤ r ∧ r < 30 := by
      rw [hr]
      unfold Cu.pickF
      exact ⟨Int.emod_nonneg _ (by omega), Int.emod_lt_of_pos _ (by omega)⟩
    obtain ⟨kr, hkr⟩ := Int.eq_ofNat_of_zero_le hr0.1
    have HPK : Hid (∀ u, Below W.heap.size W u → Calls Try.prog 29 #[.slice a0 len cap, .int .i64 1, .int .i64 30] u fun e w' => e = .returned (.int .i64 (kr : Int)) ∧ u = w') := fun u hu => by
      rw [← hkr, hr]
      exact Cu.pickF_at F u a0 len cap 1 30 (HFW.out.on hu) (by omega) (by omega) (by omega)
    have HRAN : Hid (∀ u, Below W.heap.size W u → Calls Try.prog 28 #[.agg #[.slice (some ⟨bp, 0, none⟩) 1 1], .int .i64 (kr : Int)] u fun e w' => ∃ vh vf vs ch cf Th Tf, e = .returned (.agg #[vh, vf, vs, .int .i64 (ranS (mainP a) kr (startM (mainP a))).1.fin, .int .i64 (ranS (mainP a) kr (startM (mainP a))).1.code]) ∧ MOwn u.heap.size w' vh vf vs (ranS (mainP a) kr (startM (mainP a))).1 ch cf Th Tf ∧ Below u.heap.size u w') := fun u hu =>
      specRan_at 0 (mainP a) bp 0 1 HPO.out HSMP.out kr (by omega) u (SK.on HSKW.out (Keep.of hu))
    have HMB : Hid (machB (ranS (mainP a) kr (startM (mainP a))).1 = true) := ran_ok HPO.out kr _ (main_mach a)
    have HWY : Hid ((ranS (mainP a) kr (startM (mainP a))).1.fin = 0 → WayI a (ranS (mainP a) kr (startM (mainP a))).1 ∧ PosI a (ranS (mainP a) kr (startM (mainP a))).1) := ran_way HOK.out kr _ (fun _ => by simp [startM]) (main_mach a) fun _ => ⟨WayI.start a, PosI.start hl01⟩
    generalize (ranS (mainP a) kr (startM (mainP a))).1 = R at *
    clear hsk hb20 hok' h20W hga19 HA19 HM19 HL19 hxW hwx hr hkr hr0 HF
    go_upto_region 10 with fail
    rw [← hW]
    clear hW
    have p0 := P0.out.g0.1
    go_cut [6] from 30 to 33 (fun s u => ∃ M, s = .pointer (some ⟨M, 0, none⟩) ∧ Hid (MSt W.heap.size M u R) ∧ M < u.heap.size ∧ Below W.heap.size W u)
    case first =>
      have hpV : w20.heap.size < W.heap.size := hp0
      have hD0 : Below W.heap.size W W.drew := (Below.refl _ _).drew
      have HR : Hid (∀ x, Below W.heap.size W x → Below W.heap.size W x ∧ x.cell? ⟨w20.heap.size, 0, none⟩ = some (.slice (some ⟨bp, 0, none⟩) 1 1)) := fun x hx => ⟨hx, (hx.cell (p := ⟨w20.heap.size, 0, none⟩) hpV).trans p0⟩
      refine wp_region_held_drew (S := (fun x => Below W.heap.size W x ∧ x.cell? ⟨w20.heap.size, 0, none⟩ = some (.slice (some ⟨bp, 0, none⟩) 1 1))) (by kernel_rfl) (HR.out _ hD0) (fun hHeld => ?_)
      generalize W.drew = Q0 at hD0 hHeld ⊢
      refine wpAnyH_take (i := 0) (v := ?_) rfl (by kernel_rfl) (by kernel_rfl) (by kernel_rfl) (fun _ _ _ h => h) (Or.inl ⟨by rfl, ?_⟩) hHeld ?_
      rotate_left 1
      · intro w' hSw
        obtain ⟨_, y1⟩ := hSw
        go_simp
        try with_reducible rfl
      simp only [Act.put, List.getElem_toArray, List.getElem_cons_zero]
      refine wpAnyH_take (i := 1) (v := ?_) rfl (by kernel_rfl) (by kernel_rfl) (by kernel_rfl) (fun _ _ _ h => h) (Or.inl ⟨by rfl, ?_⟩) hHeld ?_
      rotate_left 1
      · intro w' hSw
        obtain ⟨_, y1⟩ := hSw
        go_simp
        try with_reducible rfl
      simp only [Act.put, List.getElem_toArray, List.getElem_cons_zero, List.getElem_cons_succ]
      have hQ0 := hD0.size
      refine wpAnyH_ready (rs := [2, 4]) (by kernel_rfl) (by simp) ?_
      refine AllReadyH.cons rfl (fun K hK => ?_) (AllReadyH.cons rfl (fun K hK => ?_) AllReadyH.nil)
      · go_simp
        refine (HPK.out Q0 hD0).mono ?_
        rintro e Q1 ⟨rfl, rfl⟩
        dsimp only
        refine hK.out _ _ (HR.out _ hD0) (fun hHeld => ?_)
        clear hK K
        refine wpAnyH_ready (rs := [3, 4]) (by kernel_rfl) (by simp) ?_
        refine AllReadyH.cons rfl (fun K hK => ?_) (AllReadyH.cons rfl (fun K hK => ?_) AllReadyH.nil)
        · go_simp
          refine (HRAN.out Q0 hD0).mono ?_
          rintro e Q1 ⟨vh, vf, vs, ch, cf, Th, Tf, rfl, hown, hq1⟩
          obtain ⟨xh, yh, rfl⟩ := own_any hown.h.own
          obtain ⟨xf, yf, rfl⟩ := own_any hown.f.own
          obtain ⟨xs, ys, rfl⟩ := own_any hown.s
          have HOWN := hid_of hown
          clear hown
          dsimp only
          have hd1 : Below W.heap.size W Q1 := below_over hD0 hq1
          have hbE : Below W.heap.size W (Q1.alloc (.cells #[.slice xh R.heap.length yh, .slice xf R.frames.length yf, .slice xs R.said.length ys, .int .i64 R.fin, .int .i64 R.code] 44)) := hd1.alloc hd1.size _
          have HM := hid_of (MSt.late HOWN.out hQ0 hd1.size (X := Q1.alloc (.cells #[.slice xh R.heap.length yh, .slice xf R.frames.length yf, .slice xs R.said.length ys, .int .i64 R.fin, .int .i64 R.code] 44)) rfl)
          have hlt : Q1.heap.size < (Q1.alloc (.cells #[.slice xh R.heap.length yh, .slice xf R.frames.length yf, .slice xs R.said.length ys, .int .i64 R.fin, .int .i64 R.code] 44)).heap.size := by simp
          refine hK.out _ _ (HR.out Q1 hd1) (fun hHeld => ?_)
          clear hK K
          refine wpAnyH_ready (rs := [4]) (by kernel_rfl) (by simp) ?_
          refine AllReadyH.cons rfl (fun K hK => ?_) AllReadyH.nil
          go_simp
          refine hK.out _ _ (HR.out _ (hd1.alloc hd1.size _)) (fun hHeld => ?_)
          clear hK K
          refine wpAnyH_ready (rs := [5]) (by kernel_rfl) (by simp) ?_
          refine AllReadyH.cons rfl (fun K hK => ?_) AllReadyH.nil
          go_simp
          refine hK.out _ _ (HR.out _ hbE) (fun hHeld => ?_)
          clear hK K
          refine wpAnyH_done (by kernel_rfl) ?_ _
          clear hHeld
          generalize Q1.alloc (.cells #[.slice xh R.heap.length yh, .slice xf R.frames.length yf, .slice xs R.said.length ys, .int .i64 R.fin, .int .i64 R.code] 44) = QE at *
          go_wp2_with fail
          go_meet
          exact ⟨Q1.heap.size, rfl, HM.out, hlt, hbE⟩
        · go_simp
          have hq2 : Below W.heap.size W (Q0.alloc (.cells #[.slice none 0 0, .slice none 0 0, .slice none 0 0, .int .i64 0, .int .i64 0] 44)) := hD0.alloc hQ0 _
          have NC : Cells (Q0.alloc (.cells #[.slice none 0 0, .slice none 0 0, .slice none 0 0, .int .i64 0, .int .i64 0] 44)) Q0.heap.size [.slice none 0 0, .slice none 0 0, .slice none 0 0, .int .i64 0, .int .i64 0] := Cells.new Q0 _ rfl _ _
          have hQ2 : Q0.heap.size < (Q0.alloc (.cells #[.slice none 0 0, .slice none 0 0, .slice none 0 0, .int .i64 0, .int .i64 0] 44)).heap.size := by simp
          refine hK.out _ _ (HR.out _ hq2) (fun hHeld => ?_)
          clear hK K
          generalize Q0.alloc (.cells #[.slice none 0 0, .slice none 0 0, .slice none 0 0, .int .i64 0, .int .i64 0] 44) = Q2 at *
          refine wpAnyH_ready (rs := [3]) (by kernel_rfl) (by simp) ?_
          refine AllReadyH.cons rfl (fun K hK => ?_) AllReadyH.nil
          go_simp
          refine (HRAN.out Q2 hq2).mono ?_
          rintro e Q1 ⟨vh, vf, vs, ch, cf, Th, Tf, rfl, hown, hq1⟩
          obtain ⟨xh, yh, rfl⟩ := own_any hown.h.own
          obtain ⟨xf, yf, rfl⟩ := own_any hown.f.own
          obtain ⟨xs, ys, rfl⟩ := own_any hown.s
          have HOWN := hid_of hown
          clear hown
          dsimp only
          have hd1 : Below W.heap.size W Q1 := below_over hq2 hq1
          have NC1 := NC.on hq1
          have hbE : Below W.heap.size W (((((Q1.setCell ⟨Q0.heap.size, 0, none⟩ (.slice xh R.heap.length yh)).setCell ⟨Q0.heap.size, 1, none⟩ (.slice xf R.frames.length yf)).setCell ⟨Q0.heap.size, 2, none⟩ (.slice xs R.said.length ys)).setCell ⟨Q0.heap.size, 3, none⟩ (.int .i64 R.fin)).setCell ⟨Q0.heap.size, 4, none⟩ (.int .i64 R.code)) := five_below hd1 hQ0 _ _ _ _ _
          have HM := hid_of (MSt.early HOWN.out (Nat.le_trans hQ0 (Nat.le_of_lt hQ2)) hQ0 hQ2 NC1 (X := ((((Q1.setCell ⟨Q0.heap.size, 0, none⟩ (.slice xh R.heap.length yh)).setCell ⟨Q0.heap.size, 1, none⟩ (.slice xf R.frames.length yf)).setCell ⟨Q0.heap.size, 2, none⟩ (.slice xs R.said.length ys)).setCell ⟨Q0.heap.size, 3, none⟩ (.int .i64 R.fin)).setCell ⟨Q0.heap.size, 4, none⟩ (.int .i64 R.code)) rfl)
          have hlt : Q0.heap.size < (((((Q1.setCell ⟨Q0.heap.size, 0, none⟩ (.slice xh R.heap.length yh)).setCell ⟨Q0.heap.size, 1, none⟩ (.slice xf R.frames.length yf)).setCell ⟨Q0.heap.size, 2, none⟩ (.slice xs R.said.length ys)).setCell ⟨Q0.heap.size, 3, none⟩ (.int .i64 R.fin)).setCell ⟨Q0.heap.size, 4, none⟩ (.int .i64 R.code)).heap.size := by simp; exact Nat.lt_of_lt_of_le hQ2 hq1.size
          refine hK.out _ _ (HR.out Q1 hd1) (fun hHeld => ?_)
          clear hK K
          obtain ⟨n0, f0⟩ := NC1.g0
          obtain ⟨n1, f1⟩ := NC1.g1
          obtain ⟨n2, f2⟩ := NC1.g2
          obtain ⟨n3, f3⟩ := NC1.g3
          obtain ⟨n4, f4⟩ := NC1.g4
          refine wpAnyH_ready (rs := [5]) (by kernel_rfl) (by simp) ?_
          refine AllReadyH.cons rfl (fun K hK => ?_) AllReadyH.nil
          go_simp
          refine hK.out _ _ (HR.out _ hbE) (fun hHeld => ?_)
          clear hK K
          refine wpAnyH_done (by kernel_rfl) ?_ _
          clear hHeld NC NC1 n0 f0 n1 f1 n2 f2 n3 f3 n4 f4
          generalize ((((Q1.setCell ⟨Q0.heap.size, 0, none⟩ (.slice xh R.heap.length yh)).setCell ⟨Q0.heap.size, 1, none⟩ (.slice xf R.frames.length yf)).setCell ⟨Q0.heap.size, 2, none⟩ (.slice xs R.said.length ys)).setCell ⟨Q0.heap.size, 3, none⟩ (.int .i64 R.fin)).setCell ⟨Q0.heap.size, 4, none⟩ (.int .i64 R.code) = QE at *
          go_wp2_with fail
          go_meet
          exact ⟨Q0.heap.size, rfl, HM.out, hlt, hbE⟩
      · go_simp
        have hq2 : Below W.heap.size W (Q0.alloc (.cells #[.slice none 0 0, .slice none 0 0, .slice none 0 0, .int .i64 0, .int .i64 0] 44)) := hD0.alloc hQ0 _
        have NC : Cells (Q0.alloc (.cells #[.slice none 0 0, .slice none 0 0, .slice none 0 0, .int .i64 0, .int .i64 0] 44)) Q0.heap.size [.slice none 0 0, .slice none 0 0, .slice none 0 0, .int .i64 0, .int .i64 0] := Cells.new Q0 _ rfl _ _
        have hQ2 : Q0.heap.size < (Q0.alloc (.cells #[.slice none 0 0, .slice none 0 0, .slice none 0 0, .int .i64 0, .int .i64 0] 44)).heap.size := by simp
        refine hK.out _ _ (HR.out _ hq2) (fun hHeld => ?_)
        clear hK K
        generalize Q0.alloc (.cells #[.slice none 0 0, .slice none 0 0, .slice none 0 0, .int .i64 0, .int .i64 0] 44) = Q2 at *
        refine wpAnyH_ready (rs := [2]) (by kernel_rfl) (by simp) ?_
        refine AllReadyH.cons rfl (fun K hK => ?_) AllReadyH.nil
        go_simp
        refine (HPK.out Q2 hq2).mono ?_
        rintro e Q1 ⟨rfl, rfl⟩
        dsimp only
        refine hK.out _ _ (HR.out _ hq2) (fun hHeld => ?_)
        clear hK K
        refine wpAnyH_ready (rs := [3]) (by kernel_rfl) (by simp) ?_
        refine AllReadyH.cons rfl (fun K hK => ?_) AllReadyH.nil
        go_simp
        refine (HRAN.out Q2 hq2).mono ?_
        rintro e Q1 ⟨vh, vf, vs, ch, cf, Th, Tf, rfl, hown, hq1⟩
        obtain ⟨xh, yh, rfl⟩ := own_any hown.h.own
        obtain ⟨xf, yf, rfl⟩ := own_any hown.f.own
        obtain ⟨xs, ys, rfl⟩ := own_any hown.s
        have HOWN := hid_of hown
        clear hown
        dsimp only
        have hd1 : Below W.heap.size W Q1 := below_over hq2 hq1
        have NC1 := NC.on hq1
        have hbE : Below W.heap.size W (((((Q1.setCell ⟨Q0.heap.size, 0, none⟩ (.slice xh R.heap.length yh)).setCell ⟨Q0.heap.size, 1, none⟩ (.slice xf R.frames.length yf)).setCell ⟨Q0.heap.size, 2, none⟩ (.slice xs R.said.length ys)).setCell ⟨Q0.heap.size, 3, none⟩ (.int .i64 R.fin)).setCell ⟨Q0.heap.size, 4, none⟩ (.int .i64 R.code)) := five_below hd1 hQ0 _ _ _ _ _
        have HM := hid_of (MSt.early HOWN.out (Nat.le_trans hQ0 (Nat.le_of_lt hQ2)) hQ0 hQ2 NC1 (X := ((((Q1.setCell ⟨Q0.heap.size, 0, none⟩ (.slice xh R.heap.length yh)).setCell ⟨Q0.heap.size, 1, none⟩ (.slice xf R.frames.length yf)).setCell ⟨Q0.heap.size, 2, none⟩ (.slice xs R.said.length ys)).setCell ⟨Q0.heap.size, 3, none⟩ (.int .i64 R.fin)).setCell ⟨Q0.heap.size, 4, none⟩ (.int .i64 R.code)) rfl)
        have hlt : Q0.heap.size < (((((Q1.setCell ⟨Q0.heap.size, 0, none⟩ (.slice xh R.heap.length yh)).setCell ⟨Q0.heap.size, 1, none⟩ (.slice xf R.frames.length yf)).setCell ⟨Q0.heap.size, 2, none⟩ (.slice xs R.said.length ys)).setCell ⟨Q0.heap.size, 3, none⟩ (.int .i64 R.fin)).setCell ⟨Q0.heap.size, 4, none⟩ (.int .i64 R.code)).heap.size := by simp; exact Nat.lt_of_lt_of_le hQ2 hq1.size
        refine hK.out _ _ (HR.out Q1 hd1) (fun hHeld => ?_)
        clear hK K
        obtain ⟨n0, f0⟩ := NC1.g0
        obtain ⟨n1, f1⟩ := NC1.g1
        obtain ⟨n2, f2⟩ := NC1.g2
        obtain ⟨n3, f3⟩ := NC1.g3
        obtain ⟨n4, f4⟩ := NC1.g4
        refine wpAnyH_ready (rs := [5]) (by kernel_rfl) (by simp) ?_
        refine AllReadyH.cons rfl (fun K hK => ?_) AllReadyH.nil
        go_simp
        refine hK.out _ _ (HR.out _ hbE) (fun hHeld => ?_)
        clear hK K
        refine wpAnyH_done (by kernel_rfl) ?_ _
        clear hHeld NC NC1 n0 f0 n1 f1 n2 f2 n3 f3 n4 f4
        generalize ((((Q1.setCell ⟨Q0.heap.size, 0, none⟩ (.slice xh R.heap.length yh)).setCell ⟨Q0.heap.size, 1, none⟩ (.slice xf R.frames.length yf)).setCell ⟨Q0.heap.size, 2, none⟩ (.slice xs R.said.length ys)).setCell ⟨Q0.heap.size, 3, none⟩ (.int .i64 R.fin)).setCell ⟨Q0.heap.size, 4, none⟩ (.int .i64 R.code) = QE at *
        go_wp2_with fail
        go_meet
        exact ⟨Q0.heap.size, rfl, HM.out, hlt, hbE⟩
    case rest =>
      obtain ⟨Mx, rfl, HX, hMx, hb1⟩ := hcut
      generalize wc = V1 at *
      have HPK2 : Hid (∀ u, Below V1.heap.size V1 u → Calls Try.prog 29 #[.slice a0 len cap, .int .i64 1, .int .i64 30] u fun e w' => e = .returned (.int .i64 (kr : Int)) ∧ u = w') := fun u hu => HPK.out u (below_over hb1 hu)
      have HRAN2 : Hid (∀ u, Below V1.heap.size V1 u → Calls Try.prog 28 #[.agg #[.slice (some ⟨bp, 0, none⟩) 1 1], .int .i64 (kr : Int)] u fun e w' => ∃ vh vf vs ch cf Th Tf, e = .returned (.agg #[vh, vf, vs, .int .i64 R.fin, .int .i64 R.code]) ∧ MOwn u.heap.size w' vh vf vs R ch cf Th Tf ∧ Below u.heap.size u w') := fun u hu => HRAN.out u (below_over hb1 hu)
      clear p0 HPK HRAN
      have p0 := (P0.out.on hb1).g0.1
      go_upto_region 11 with fail
      go_cut [7] from 34 to 37 (fun s u => ∃ M, s = .pointer (some ⟨M, 0, none⟩) ∧ Hid (MSt V1.heap.size M u R) ∧ M < u.heap.size ∧ Below V1.heap.size V1 u)
      case first =>
        have hpV : w20.heap.size < V1.heap.size := Nat.lt_of_lt_of_le hp0 hb1.size
        have hD0 : Below V1.heap.size V1 V1.drew := (Below.refl _ _).drew
        have HR : Hid (∀ x, Below V1.heap.size V1 x → Below V1.heap.size V1 x ∧ x.cell? ⟨w20.heap.size, 0, none⟩ = some (.slice (some ⟨bp, 0, none⟩) 1 1)) := fun x hx => ⟨hx, (hx.cell (p := ⟨w20.heap.size, 0, none⟩) hpV).trans p0⟩
        refine wp_region_held_drew (S := (fun x => Below V1.heap.size V1 x ∧ x.cell? ⟨w20.heap.size, 0, none⟩ = some (.slice (some ⟨bp, 0, none⟩) 1 1))) (by kernel_rfl) (HR.out _ hD0) (fun hHeld => ?_)
        generalize V1.drew = Q0 at hD0 hHeld ⊢
        refine wpAnyH_take (i := 0) (v := ?_) rfl (by kernel_rfl) (by kernel_rfl) (by kernel_rfl) (fun _ _ _ h => h) (Or.inl ⟨by rfl, ?_⟩) hHeld ?_
        rotate_left 1
        · intro w' hSw
          obtain ⟨_, y1⟩ := hSw
          go_simp
          try with_reducible rfl
        simp only [Act.put, List.getElem_toArray, List.getElem_cons_zero]
        refine wpAnyH_take (i := 1) (v := ?_) rfl (by kernel_rfl) (by kernel_rfl) (by kernel_rfl) (fun _ _ _ h => h) (Or.inl ⟨by rfl, ?_⟩) hHeld ?_
        rotate_left 1
        · intro w' hSw
          obtain ⟨_, y1⟩ := hSw
          go_simp
          try with_reducible rfl
        simp only [Act.put, List.getElem_toArray, List.getElem_cons_zero, List.getElem_cons_succ]
        have hQ0 := hD0.size
        refine wpAnyH_ready (rs := [2, 4]) (by kernel_rfl) (by simp) ?_
        refine AllReadyH.cons rfl (fun K hK => ?_) (AllReadyH.cons rfl (fun K hK => ?_) AllReadyH.nil)
        · go_simp
          refine (HPK2.out Q0 hD0).mono ?_
          rintro e Q1 ⟨rfl, rfl⟩
          dsimp only
          refine hK.out _ _ (HR.out _ hD0) (fun hHeld => ?_)
          clear hK K
          refine wpAnyH_ready (rs := [3, 4]) (by kernel_rfl) (by simp) ?_
          refine AllReadyH.cons rfl (fun K hK => ?_) (AllReadyH.cons rfl (fun K hK => ?_) AllReadyH.nil)
          · go_simp
            refine (HRAN2.out Q0 hD0).mono ?_
            rintro e Q1 ⟨vh, vf, vs, ch, cf, Th, Tf, rfl, hown, hq1⟩
            obtain ⟨xh, yh, rfl⟩ := own_any hown.h.own
            obtain ⟨xf, yf, rfl⟩ := own_any hown.f.own
            obtain ⟨xs, ys, rfl⟩ := own_any hown.s
            have HOWN := hid_of hown
            clear hown
            dsimp only
            have hd1 : Below V1.heap.size V1 Q1 := below_over hD0 hq1
            have hbE : Below V1.heap.size V1 (Q1.alloc (.cells #[.slice xh R.heap.length yh, .slice xf R.frames.length yf, .slice xs R.said.length ys, .int .i64 R.fin, .int .i64 R.code] 44)) := hd1.alloc hd1.size _
            have HM := hid_of (MSt.late HOWN.out hQ0 hd1.size (X := Q1.alloc (.cells #[.slice xh R.heap.length yh, .slice xf R.frames.length yf, .slice xs R.said.length ys, .int .i64 R.fin, .int .i64 R.code] 44)) rfl)
            have hlt : Q1.heap.size < (Q1.alloc (.cells #[.slice xh R.heap.length yh, .slice xf R.frames.length yf, .slice xs R.said.length ys, .int .i64 R.fin, .int .i64 R.code] 44)).heap.size := by simp
            refine hK.out _ _ (HR.out Q1 hd1) (fun hHeld => ?_)
            clear hK K
            refine wpAnyH_ready (rs := [4]) (by kernel_rfl) (by simp) ?_
            refine AllReadyH.cons rfl (fun K hK => ?_) AllReadyH.nil
            go_simp
            refine hK.out _ _ (HR.out _ (hd1.alloc hd1.size _)) (fun hHeld => ?_)
            clear hK K
            refine wpAnyH_ready (rs := [5]) (by kernel_rfl) (by simp) ?_
            refine AllReadyH.cons rfl (fun K hK => ?_) AllReadyH.nil
            go_simp
            refine hK.out _ _ (HR.out _ hbE) (fun hHeld => ?_)
            clear hK K
            refine wpAnyH_done (by kernel_rfl) ?_ _
            clear hHeld
            generalize Q1.alloc (.cells #[.slice xh R.heap.length yh, .slice xf R.frames.length yf, .slice xs R.said.length ys, .int .i64 R.fin, .int .i64 R.code] 44) = QE at *
            go_wp2_with fail
            go_meet
            exact ⟨Q1.heap.size, rfl, HM.out, hlt, hbE⟩
          · go_simp
            have hq2 : Below V1.heap.size V1 (Q0.alloc (.cells #[.slice none 0 0, .slice none 0 0, .slice none 0 0, .int .i64 0, .int .i64 0] 44)) := hD0.alloc hQ0 _
            have NC : Cells (Q0.alloc (.cells #[.slice none 0 0, .slice none 0 0, .slice none 0 0, .int .i64 0, .int .i64 0] 44)) Q0.heap.size [.slice none 0 0, .slice none 0 0, .slice none 0 0, .int .i64 0, .int .i64 0] := Cells.new Q0 _ rfl _ _
            have hQ2 : Q0.heap.size < (Q0.alloc (.cells #[.slice none 0 0, .slice none 0 0, .slice none 0 0, .int .i64 0, .int .i64 0] 44)).heap.size := by simp
            refine hK.out _ _ (HR.out _ hq2) (fun hHeld => ?_)
            clear hK K
            generalize Q0.alloc (.cells #[.slice none 0 0, .slice none 0 0, .slice none 0 0, .int .i64 0, .int .i64 0] 44) = Q2 at *
            refine wpAnyH_ready (rs := [3]) (by kernel_rfl) (by simp) ?_
            refine AllReadyH.cons rfl (fun K hK => ?_) AllReadyH.nil
            go_simp
            refine (HRAN2.out Q2 hq2).mono ?_
            rintro e Q1 ⟨vh, vf, vs, ch, cf, Th, Tf, rfl, hown, hq1⟩
            obtain ⟨xh, yh, rfl⟩ := own_any hown.h.own
            obtain ⟨xf, yf, rfl⟩ := own_any hown.f.own
            obtain ⟨xs, ys, rfl⟩ := own_any hown.s
            have HOWN := hid_of hown
            clear hown
            dsimp only
            have hd1 : Below V1.heap.size V1 Q1 := below_over hq2 hq1
            have NC1 := NC.on hq1
            have hbE : Below V1.heap.size V1 (((((Q1.setCell ⟨Q0.heap.size, 0, none⟩ (.slice xh R.heap.length yh)).setCell ⟨Q0.heap.size, 1, none⟩ (.slice xf R.frames.length yf)).setCell ⟨Q0.heap.size, 2, none⟩ (.slice xs R.said.length ys)).setCell ⟨Q0.heap.size, 3, none⟩ (.int .i64 R.fin)).setCell ⟨Q0.heap.size, 4, none⟩ (.int .i64 R.code)) := five_below hd1 hQ0 _ _ _ _ _
            have HM := hid_of (MSt.early HOWN.out (Nat.le_trans hQ0 (Nat.le_of_lt hQ2)) hQ0 hQ2 NC1 (X := ((((Q1.setCell ⟨Q0.heap.size, 0, none⟩ (.slice xh R.heap.length yh)).setCell ⟨Q0.heap.size, 1, none⟩ (.slice xf R.frames.length yf)).setCell ⟨Q0.heap.size, 2, none⟩ (.slice xs R.said.length ys)).setCell ⟨Q0.heap.size, 3, none⟩ (.int .i64 R.fin)).setCell ⟨Q0.heap.size, 4, none⟩ (.int .i64 R.code)) rfl)
            have hlt : Q0.heap.size < (((((Q1.setCell ⟨Q0.heap.size, 0, none⟩ (.slice xh R.heap.length yh)).setCell ⟨Q0.heap.size, 1, none⟩ (.slice xf R.frames.length yf)).setCell ⟨Q0.heap.size, 2, none⟩ (.slice xs R.said.length ys)).setCell ⟨Q0.heap.size, 3, none⟩ (.int .i64 R.fin)).setCell ⟨Q0.heap.size, 4, none⟩ (.int .i64 R.code)).heap.size := by simp; exact Nat.lt_of_lt_of_le hQ2 hq1.size
            refine hK.out _ _ (HR.out Q1 hd1) (fun hHeld => ?_)
            clear hK K
            obtain ⟨n0, f0⟩ := NC1.g0
            obtain ⟨n1, f1⟩ := NC1.g1
            obtain ⟨n2, f2⟩ := NC1.g2
            obtain ⟨n3, f3⟩ := NC1.g3
            obtain ⟨n4, f4⟩ := NC1.g4
            refine wpAnyH_ready (rs := [5]) (by kernel_rfl) (by simp) ?_
            refine AllReadyH.cons rfl (fun K hK => ?_) AllReadyH.nil
            go_simp
            refine hK.out _ _ (HR.out _ hbE) (fun hHeld => ?_)
            clear hK K
            refine wpAnyH_done (by kernel_rfl) ?_ _
            clear hHeld NC NC1 n0 f0 n1 f1 n2 f2 n3 f3 n4 f4
            generalize ((((Q1.setCell ⟨Q0.heap.size, 0, none⟩ (.slice xh R.heap.length yh)).setCell ⟨Q0.heap.size, 1, none⟩ (.slice xf R.frames.length yf)).setCell ⟨Q0.heap.size, 2, none⟩ (.slice xs R.said.length ys)).setCell ⟨Q0.heap.size, 3, none⟩ (.int .i64 R.fin)).setCell ⟨Q0.heap.size, 4, none⟩ (.int .i64 R.code) = QE at *
            go_wp2_with fail
            go_meet
            exact ⟨Q0.heap.size, rfl, HM.out, hlt, hbE⟩
        · go_simp
          have hq2 : Below V1.heap.size V1 (Q0.alloc (.cells #[.slice none 0 0, .slice none 0 0, .slice none 0 0, .int .i64 0, .int .i64 0] 44)) := hD0.alloc hQ0 _
          have NC : Cells (Q0.alloc (.cells #[.slice none 0 0, .slice none 0 0, .slice none 0 0, .int .i64 0, .int .i64 0] 44)) Q0.heap.size [.slice none 0 0, .slice none 0 0, .slice none 0 0, .int .i64 0, .int .i64 0] := Cells.new Q0 _ rfl _ _
          have hQ2 : Q0.heap.size < (Q0.alloc (.cells #[.slice none 0 0, .slice none 0 0, .slice none 0 0, .int .i64 0, .int .i64 0] 44)).heap.size := by simp
          refine hK.out _ _ (HR.out _ hq2) (fun hHeld => ?_)
          clear hK K
          generalize Q0.alloc (.cells #[.slice none 0 0, .slice none 0 0, .slice none 0 0, .int .i64 0, .int .i64 0] 44) = Q2 at *
          refine wpAnyH_ready (rs := [2]) (by kernel_rfl) (by simp) ?_
          refine AllReadyH.cons rfl (fun K hK => ?_) AllReadyH.nil
          go_simp
          refine (HPK2.out Q2 hq2).mono ?_
          rintro e Q1 ⟨rfl, rfl⟩
          dsimp only
          refine hK.out _ _ (HR.out _ hq2) (fun hHeld => ?_)
          clear hK K
          refine wpAnyH_ready (rs := [3]) (by kernel_rfl) (by simp) ?_
          refine AllReadyH.cons rfl (fun K hK => ?_) AllReadyH.nil
          go_simp
          refine (HRAN2.out Q2 hq2).mono ?_
          rintro e Q1 ⟨vh, vf, vs, ch, cf, Th, Tf, rfl, hown, hq1⟩
          obtain ⟨xh, yh, rfl⟩ := own_any hown.h.own
          obtain ⟨xf, yf, rfl⟩ := own_any hown.f.own
          obtain ⟨xs, ys, rfl⟩ := own_any hown.s
          have HOWN := hid_of hown
          clear hown
          dsimp only
          have hd1 : Below V1.heap.size V1 Q1 := below_over hq2 hq1
          have NC1 := NC.on hq1
          have hbE : Below V1.heap.size V1 (((((Q1.setCell ⟨Q0.heap.size, 0, none⟩ (.slice xh R.heap.length yh)).setCell ⟨Q0.heap.size, 1, none⟩ (.slice xf R.frames.length yf)).setCell ⟨Q0.heap.size, 2, none⟩ (.slice xs R.said.length ys)).setCell ⟨Q0.heap.size, 3, none⟩ (.int .i64 R.fin)).setCell ⟨Q0.heap.size, 4, none⟩ (.int .i64 R.code)) := five_below hd1 hQ0 _ _ _ _ _
          have HM := hid_of (MSt.early HOWN.out (Nat.le_trans hQ0 (Nat.le_of_lt hQ2)) hQ0 hQ2 NC1 (X := ((((Q1.setCell ⟨Q0.heap.size, 0, none⟩ (.slice xh R.heap.length yh)).setCell ⟨Q0.heap.size, 1, none⟩ (.slice xf R.frames.length yf)).setCell ⟨Q0.heap.size, 2, none⟩ (.slice xs R.said.length ys)).setCell ⟨Q0.heap.size, 3, none⟩ (.int .i64 R.fin)).setCell ⟨Q0.heap.size, 4, none⟩ (.int .i64 R.code)) rfl)
          have hlt : Q0.heap.size < (((((Q1.setCell ⟨Q0.heap.size, 0, none⟩ (.slice xh R.heap.length yh)).setCell ⟨Q0.heap.size, 1, none⟩ (.slice xf R.frames.length yf)).setCell ⟨Q0.heap.size, 2, none⟩ (.slice xs R.said.length ys)).setCell ⟨Q0.heap.size, 3, none⟩ (.int .i64 R.fin)).setCell ⟨Q0.heap.size, 4, none⟩ (.int .i64 R.code)).heap.size := by simp; exact Nat.lt_of_lt_of_le hQ2 hq1.size
          refine hK.out _ _ (HR.out Q1 hd1) (fun hHeld => ?_)
          clear hK K
          obtain ⟨n0, f0⟩ := NC1.g0
          obtain ⟨n1, f1⟩ := NC1.g1
          obtain ⟨n2, f2⟩ := NC1.g2
          obtain ⟨n3, f3⟩ := NC1.g3
          obtain ⟨n4, f4⟩ := NC1.g4
          refine wpAnyH_ready (rs := [5]) (by kernel_rfl) (by simp) ?_
          refine AllReadyH.cons rfl (fun K hK => ?_) AllReadyH.nil
          go_simp
          refine hK.out _ _ (HR.out _ hbE) (fun hHeld => ?_)
          clear hK K
          refine wpAnyH_done (by kernel_rfl) ?_ _
          clear hHeld NC NC1 n0 f0 n1 f1 n2 f2 n3 f3 n4 f4
          generalize ((((Q1.setCell ⟨Q0.heap.size, 0, none⟩ (.slice xh R.heap.length yh)).setCell ⟨Q0.heap.size, 1, none⟩ (.slice xf R.frames.length yf)).setCell ⟨Q0.heap.size, 2, none⟩ (.slice xs R.said.length ys)).setCell ⟨Q0.heap.size, 3, none⟩ (.int .i64 R.fin)).setCell ⟨Q0.heap.size, 4, none⟩ (.int .i64 R.code) = QE at *
          go_wp2_with fail
          go_meet
          exact ⟨Q0.heap.size, rfl, HM.out, hlt, hbE⟩
      case rest =>
        obtain ⟨My, rfl, HY, hMy, hb2⟩ := hcut
        generalize wc = V2 at *
        have hbW2 : Below W.heap.size W V2 := below_over hb1 hb2
        have HX2 : Hid (MSt W.heap.size Mx V2 R) := HX.out.on hb2
        have HX1 : Hid (MSt W.heap.size Mx V1 R) := HX.out
        have hMxV : Mx < V1.heap.size := hMx
        clear HPK2 HRAN2 p0 HX hMx
        have hmc := (mach_core R).1 HMB.out
        have hy1 := HY.out
        obtain ⟨xh, xf, xs, xch, xcf, xTh, xTf, x1, x2, x3, x4⟩ := HX2.out
        obtain ⟨c3, _⟩ := x1.g3
        by_cases hf : R.fin = 0
        · have hfb : (R.fin != 0) = false := by simpa using hf
          have hfr := hmc.2.2.2 hf
          have h30 := hmc.1.f30
          have hl0 : 0 < R.frames.length := List.length_pos_iff.2 hfr
          obtain ⟨f, hfq⟩ : ∃ f, R.frames[0] = f := ⟨_, rfl⟩
          have hf0 : R.frames[0]? = some f := by rw [← hfq]; exact List.getElem?_eq_getElem hl0
          have hmem : f ∈ R.frames := by rw [← hfq]; exact List.getElem_mem hl0
          have h8 : f.loc.length = 8 := (hmc.1.fr f hmem).l8
          have hVL : VsOk f.loc := (hmc.1.fr f hmem).lv
          obtain ⟨hWI, hPI⟩ := HWY.out hf
          have hp0' := (hWI.all f hmem).2.2.1
          have hpa := hPI f hmem
          obtain ⟨p, hp⟩ := Int.eq_ofNat_of_zero_le hp0'
          obtain ⟨G, fcap, vS, vL, vh, vs, ch, cf, Th, Tf, hT⟩ := hy1.tp hf0
          have hyf := hT.cells.g1.1
          have hyp := hT.cell (d := 2) (by omega)
          simp only [Nat.zero_mul, Nat.zero_add, List.getElem?_cons_succ, List.getElem?_cons_zero] at hyp
          obtain ⟨gL, cL, hvL, hgL, _, _, _⟩ | ⟨_, hnil⟩ := hT.loc
          · subst hvL
            have HT : Hid (Tp V1.heap.size My V2 R R.frames.length 0 f G fcap vS (.slice (some ⟨gL, 0, none⟩) f.loc.length (f.loc.length + cL)) vh vs ch cf Th Tf) := hT
            have hl0i : (0 : Int) < (R.frames.length : Int) := by omega
            have HWI : Hid (WayI a R ∧ PosI a R) := ⟨hWI, hPI⟩
            have HMC : Hid (VsOk f.loc) := hVL
            clear hT hy1 hWI hPI hmc hfr hVL x1 x2 x3 x4
            by_cases h1 : R.frames.length = 1
            · have hfs : R.frames = [f] := by
                match hq : R.frames, h1, hf0 with
                | [x], _, h => simp at h; rw [h]
              have h1b : ((R.frames.length : Int) != 1) = false := by rw [h1]; rfl
              by_cases hpl : p < a.length
              · have hpi : (f.pos : Int) < (a.length : Int) := by omega
                have H8 : Hid (f.loc.length = 8) := h8
                have HPP : Hid (f.pos = (p : Int)) := hp
                have HFS : Hid (R.frames = [f]) := hfs
                obtain ⟨c8, hc8⟩ : ∃ c8, c8 = f.loc.length + cL := ⟨_, rfl⟩
                have HT0 : Hid (Tp V1.heap.size My V2 { R with frames := [{ f with loc := f.loc }] } 1 0 { f with loc := f.loc } G fcap vS (.slice (some ⟨gL, 0, none⟩) 8 c8) vh vs ch cf Th Tf) := by
                  show Tp _ _ _ _ _ _ _ _ _ _ _ _ _ _ _ _ _
                  have e : ({ R with frames := [{ f with loc := f.loc }] } : Mc) = R := by rw [← hfs]
                  have := HT.out
                  rw [← hc8, h8, h1] at this
                  rw [e]
                  exact this
                have HLV1 : Hid (∀ x, Below V1.heap.size V1 x → IRow x gl 0 lv ∧ Cu.Told F x a0 len ∧ MSt W.heap.size Mx x R ∧ Below W.heap.size W x) := fun x hx =>
                  ⟨HLW.out.on (below_over hb1 hx), HFW.out.on (below_over hb1 hx), HX1.out.on hx, below_over hb1 hx⟩
                have HPN : Hid (0 ≤ f.pos ∧ f.pos < 1000) := ⟨hp0', by omega⟩
                clear h8 hp hfs hc8 HT hp0' hpa
                go_wp2
                clear h1b hyf hyp c3
                go_loopw [9] (fun i wr => ∃ (k : Nat) (l : List Vl), k ≤ 8 ∧ i = .int .i64 (k : Int) ∧ Hid (l.length = 8) ∧ Hid (VsOk l) ∧ Hid (∀ v, v < 8 → lvB a p v = true → l[v]? = f.loc[v]?) ∧ Hid (Tp V1.heap.size My wr { R with frames := [{ f with loc := l }] } 1 0 { f with loc := l } G fcap vS (.slice (some ⟨gL, 0, none⟩) 8 c8) vh vs ch cf Th Tf) ∧ Below V1.heap.size V1 wr) (fun i _ => 8 - (intOf i).toNat)
                case atStart => exact ⟨0, f.loc, Nat.zero_le _, rfl, H8.out, HMC.out, fun _ _ _ => rfl, HT0.out, hb2⟩
                case round =>
                  clear HT0
                  obtain ⟨k, l, hk, rfl, hl8, hlv, hll, hT, hbr⟩ := hrel
                  by_cases hlt : k < 8
                  · have hki : (k : Int) < 8 := by omega
                    have c2 := hT.out.cell (d := 2) (by omega)
                    simp only [Nat.zero_mul, Nat.zero_add, List.getElem?_cons_succ, List.getElem?_cons_zero] at c2
                    rw [HPP.out] at c2
                    have cl := (HLV1.out _ hbr).1 p _ (HLA.out p hpl)
                    simp only [Nat.zero_add] at cl
                    have hpi2 : (p : Int) < (a.length : Int) := by omega
                    have hev := bn_even (P := lvB a p) hlt
                    cases hlive : lvB a p k
                    · rw [hlive] at hev
                      have HLVE : Hid (lvB a p k = false) := hlive
                      generalize bn (lvB a p) 8 = bnv at *
                      obtain ⟨r3, hr3⟩ : ∃ r, r = Cu.pickF F len (10 + (k : Int)) 3 := ⟨_, rfl⟩
                      have hr30 : 0 ≤ r3 ∧ r3 < 3 := by
                        rw [hr3]
                        unfold Cu.pickF
                        exact ⟨Int.emod_nonneg _ (by omega), Int.emod_lt_of_pos _ (by omega)⟩
                      obtain ⟨n3, hn3⟩ := Int.eq_ofNat_of_zero_le hr30.1
                      have hn33 : (n3 : Int) < 3 := by omega
                      obtain ⟨x3, hx3v, hx3a, hx3b⟩ : ∃ x : Vl, valB x = true ∧ ([.int .i64 1, .int .i64 77, .int .i64 3, .int .i64 0, .int .i64 2, .int .i64 0] : List Value)[n3 * 2]? = some (.int .i64 x.1) ∧ ([.int .i64 1, .int .i64 77, .int .i64 3, .int .i64 0, .int .i64 2, .int .i64 0] : List Value)[n3 * 2 + 1]? = some (.int .i64 x.2) := by
                        have : n3 < 3 := by omega
                        match n3, this with
                        | 0, _ => exact ⟨(1, 77), by decide, rfl, rfl⟩
                        | 1, _ => exact ⟨(3, 0), by decide, rfl, rfl⟩
                        | 2, _ => exact ⟨(2, 0), by decide, rfl, rfl⟩
                      have HX3 : Hid (valB x3 = true ∧ ([.int .i64 1, .int .i64 77, .int .i64 3, .int .i64 0, .int .i64 2, .int .i64 0] : List Value)[n3 * 2]? = some (.int .i64 x3.1) ∧ ([.int .i64 1, .int .i64 77, .int .i64 3, .int .i64 0, .int .i64 2, .int .i64 0] : List Value)[n3 * 2 + 1]? = some (.int .i64 x3.2)) := ⟨hx3v, hx3a, hx3b⟩
                      have HPK3 : Hid (∀ x, Below V1.heap.size V1 x → Calls Try.prog 29 #[.slice a0 len cap, .int .i64 (IntKind.i64.wrap (10 + (k : Int))), .int .i64 3] x fun e w' => e = .returned (.int .i64 (n3 : Int)) ∧ x = w') := fun x hx => by
                        rw [show IntKind.i64.wrap (10 + (k : Int)) = 10 + (k : Int) by simp [IntKind.wrap, IntKind.signed, IntKind.bits]; omega, ← hn3, hr3]
                        exact Cu.pickF_at F x a0 len cap (10 + (k : Int)) 3 (HLV1.out x hx).2.1 (by omega) (by omega) (by omega)
                      have c4 := hT.out.cell (d := 4) (by omega)
                      simp only [Nat.zero_mul, Nat.zero_add, List.getElem?_cons_succ, List.getElem?_cons_zero] at c4
                      have hGl := hT.out.glt
                      have HR3 : Hid (∀ x, Below wr.heap.size wr x → Below V1.heap.size V1 x ∧ x.cell? ⟨G, 4, none⟩ = some (.slice (some ⟨gL, 0, none⟩) 8 c8)) := fun x hx => ⟨hbr.trans (hx.mono hbr.size), (hx.cell (p := ⟨G, 4, none⟩) hGl).trans c4⟩
                      clear hr3 hn3 hr30 hx3v hx3a hx3b hlive
                      go_upto_region 21 with fail
                      clear c2 cl c4 hev
                      have hD0 : Below wr.heap.size wr wr.drew := (Below.refl _ _).drew
                      refine wp_region_held_drew (S := (fun x => Below V1.heap.size V1 x ∧ x.cell? ⟨G, 4, none⟩ = some (.slice (some ⟨gL, 0, none⟩) 8 c8))) (by kernel_rfl) (HR3.out _ hD0) (fun hHeld => ?_)
                      generalize wr.drew = Q0 at hD0 hHeld ⊢
                      refine wpAnyH_take (i := 0) (oi := { dst := some 73, op := Op.move (Operand.tmp 8), type := 54, pos := "laws.go:772", after := #[], guard := none }) (v := ?_) rfl (by kernel_rfl) (by kernel_rfl) (by kernel_rfl) (fun _ _ _ h => h) (Or.inl ⟨by rfl, ?_⟩) hHeld ?_
                      rotate_left 1
                      · intro w' hSw
                        obtain ⟨_, y1⟩ := hSw
                        go_simp
                        try with_reducible rfl
                      simp only [Act.put, List.setIfInBounds_toArray, List.set_cons_zero, List.set_cons_succ]
                      refine wpAnyH_take (i := 1) (oi := { dst := some 74, op := Op.nilCheck (Operand.tmp 73), type := 0, pos := "laws.go:772", after := #[{ on := 0, ground := Ground.data }], guard := none }) (v := ?_) rfl (by kernel_rfl) (by kernel_rfl) (by kernel_rfl) (fun _ _ _ h => h) (Or.inl ⟨by rfl, ?_⟩) hHeld ?_
                      rotate_left 1
                      · intro w' hSw
                        obtain ⟨_, y1⟩ := hSw
                        go_simp
                        try with_reducible rfl
                      simp only [Act.put, List.setIfInBounds_toArray, List.set_cons_zero, List.set_cons_succ]
                      refine wpAnyH_take (i := 2) (oi := { dst := some 75, op := Op.fieldAddr 49 (Operand.tmp 74) 4, type := 0, pos := "laws.go:772", after := #[{ on := 1, ground := Ground.data }], guard := none }) (v := ?_) rfl (by kernel_rfl) (by kernel_rfl) (by kernel_rfl) (fun _ _ _ h => h) (Or.inl ⟨by rfl, ?_⟩) hHeld ?_
                      rotate_left 1
                      · intro w' hSw
                        obtain ⟨_, y1⟩ := hSw
                        go_simp
                        try with_reducible rfl
                      simp only [Act.put, List.setIfInBounds_toArray, List.set_cons_zero, List.set_cons_succ]
                      refine wpAnyH_take (i := 3) (oi := { dst := some 76, op := Op.load 47 (Operand.tmp 75), type := 47, pos := "laws.go:772", after := #[{ on := 2, ground := Ground.data }], guard := none }) (v := ?_) rfl (by kernel_rfl) (by kernel_rfl) (by kernel_rfl) (fun _ _ _ h => h) (Or.inl ⟨by rfl, ?_⟩) hHeld ?_
                      rotate_left 1
                      · intro w' hSw
                        obtain ⟨_, y1⟩ := hSw
                        go_simp
                        try with_reducible rfl
                      simp only [Act.put, List.setIfInBounds_toArray, List.set_cons_zero, List.set_cons_succ]
                      refine wpAnyH_take (i := 4) (oi := { dst := some 77, op := Op.move (Operand.tmp 9), type := 3, pos := "laws.go:772", after := #[], guard := none }) (v := ?_) rfl (by kernel_rfl) (by kernel_rfl) (by kernel_rfl) (fun _ _ _ h => h) (Or.inl ⟨by rfl, ?_⟩) hHeld ?_
                      rotate_left 1
                      · intro w' hSw
                        obtain ⟨_, y1⟩ := hSw
                        go_simp
                        try with_reducible rfl
                      simp only [Act.put, List.setIfInBounds_toArray, List.set_cons_zero, List.set_cons_succ]
                      refine wpAnyH_take (i := 5) (oi := { dst := some 78, op := Op.build 57 #[(0, Operand.const (Value.int IntKind.i64 1)), (1, Operand.const (Value.int IntKind.i64 77))], type := 57, pos := "laws.go:772", after := #[], guard := none }) (v := ?_) rfl (by kernel_rfl) (by kernel_rfl) (by kernel_rfl) (fun _ _ _ h => h) (Or.inl ⟨by rfl, ?_⟩) hHeld ?_
                      rotate_left 1
                      · intro w' hSw
                        obtain ⟨_, y1⟩ := hSw
                        go_simp
                        try with_reducible rfl
                      simp only [Act.put, List.setIfInBounds_toArray, List.set_cons_zero, List.set_cons_succ]
                      refine wpAnyH_take (i := 6) (oi := { dst := some 79, op := Op.build 57 #[(0, Operand.const (Value.int IntKind.i64 3))], type := 57, pos := "laws.go:772", after := #[], guard := none }) (v := ?_) rfl (by kernel_rfl) (by kernel_rfl) (by kernel_rfl) (fun _ _ _ h => h) (Or.inl ⟨by rfl, ?_⟩) hHeld ?_
                      rotate_left 1
                      · intro w' hSw
                        obtain ⟨_, y1⟩ := hSw
                        go_simp
                        try with_reducible rfl
                      simp only [Act.put, List.setIfInBounds_toArray, List.set_cons_zero, List.set_cons_succ]
                      refine wpAnyH_take (i := 7) (oi := { dst := some 80, op := Op.build 57 #[(0, Operand.const (Value.int IntKind.i64 2))], type := 57, pos := "laws.go:772", after := #[], guard := none }) (v := ?_) rfl (by kernel_rfl) (by kernel_rfl) (by kernel_rfl) (fun _ _ _ h => h) (Or.inl ⟨by rfl, ?_⟩) hHeld ?_
                      rotate_left 1
                      · intro w' hSw
                        obtain ⟨_, y1⟩ := hSw
                        go_simp
                        try with_reducible rfl
                      simp only [Act.put, List.setIfInBounds_toArray, List.set_cons_zero, List.set_cons_succ]
                      refine wpAnyH_take (i := 9) (oi := { dst := some 82, op := Op.move (Operand.tmp 0), type := 22, pos := "laws.go:772", after := #[], guard := none }) (v := ?_) rfl (by kernel_rfl) (by kernel_rfl) (by kernel_rfl) (fun _ _ _ h => h) (Or.inl ⟨by rfl, ?_⟩) hHeld ?_
                      rotate_left 1
                      · intro w' hSw
                        obtain ⟨_, y1⟩ := hSw
                        go_simp
                        try with_reducible rfl
                      simp only [Act.put, List.setIfInBounds_toArray, List.set_cons_zero, List.set_cons_succ]
                      refine wpAnyH_take (i := 10) (oi := { dst := some 83, op := Op.move (Operand.tmp 9), type := 3, pos := "laws.go:772", after := #[], guard := none }) (v := ?_) rfl (by kernel_rfl) (by kernel_rfl) (by kernel_rfl) (fun _ _ _ h => h) (Or.inl ⟨by rfl, ?_⟩) hHeld ?_
                      rotate_left 1
                      · intro w' hSw
                        obtain ⟨_, y1⟩ := hSw
                        go_simp
                        try with_reducible rfl
                      simp only [Act.put, List.setIfInBounds_toArray, List.set_cons_zero, List.set_cons_succ]
                      refine wpAnyH_take (i := 11) (oi := { dst := some 84, op := Op.binOp BinOp.add 3 (Operand.const (Value.int IntKind.i64 10)) (Operand.tmp 83) 3, type := 3, pos := "laws.go:772", after := #[{ on := 10, ground := Ground.data }], guard := none }) (v := ?_) rfl (by kernel_rfl) (by kernel_rfl) (by kernel_rfl) (fun _ _ _ h => h) (Or.inl ⟨by rfl, ?_⟩) hHeld ?_
                      rotate_left 1
                      · intro w' hSw
                        obtain ⟨_, y1⟩ := hSw
                        go_simp
                        try with_reducible rfl
                      simp only [Act.put, List.setIfInBounds_toArray, List.set_cons_zero, List.set_cons_succ]
                      have hQ0 := hD0.size
                      refine wpAnyH_ready (rs := [8, 12]) (by kernel_rfl) (by simp) ?_
                      refine AllReadyH.cons (o := { dst := some 81, op := Op.buildSlice 47 3 #[(0, Operand.tmp 78), (1, Operand.tmp 79), (2, Operand.tmp 80)], type := 47, pos := "laws.go:772", after := #[{ on := 5, ground := Ground.data }, { on := 6, ground := Ground.data }, { on := 7, ground := Ground.data }], guard := none }) rfl (fun K hK => ?_) (AllReadyH.cons (o := { dst := some 85, op := Op.call { callee := Callee.value (Operand.func 29), args := #[Operand.tmp 82, Operand.tmp 84, Operand.const (Value.int IntKind.i64 3)], argTypes := #[22, 2, 2] }, type := 2, pos := "laws.go:772", after := #[{ on := 9, ground := Ground.data }, { on := 11, ground := Ground.data }], guard := none }) rfl (fun K hK => ?_) AllReadyH.nil)
                      · go_simp
                        have hq2 : Below wr.heap.size wr (Q0.alloc (.cells #[.int .i64 1, .int .i64 77, .int .i64 3, .int .i64 0, .int .i64 2, .int .i64 0] 57)) := hD0.alloc hQ0 _
                        have NC : Cells (Q0.alloc (.cells #[.int .i64 1, .int .i64 77, .int .i64 3, .int .i64 0, .int .i64 2, .int .i64 0] 57)) Q0.heap.size [.int .i64 1, .int .i64 77, .int .i64 3, .int .i64 0, .int .i64 2, .int .i64 0] := Cells.new Q0 _ rfl _ _
                        refine hK.out _ _ (HR3.out _ hq2) (fun hHeld => ?_)
                        clear hK K
                        generalize Q0.alloc (.cells #[.int .i64 1, .int .i64 77, .int .i64 3, .int .i64 0, .int .i64 2, .int .i64 0] 57) = Q2 at *
                        have e0 := (NC (n3 * 2) _ HX3.out.2.1).1
                        have e1 := (NC (n3 * 2 + 1) _ HX3.out.2.2).1
                        refine wpAnyH_ready (rs := [12]) (by kernel_rfl) (by simp) ?_
                        refine AllReadyH.cons (o := { dst := some 85, op := Op.call { callee := Callee.value (Operand.func 29), args := #[Operand.tmp 82, Operand.tmp 84, Operand.const (Value.int IntKind.i64 3)], argTypes := #[22, 2, 2] }, type := 2, pos := "laws.go:772", after := #[{ on := 9, ground := Ground.data }, { on := 11, ground := Ground.data }], guard := none }) rfl (fun K hK => ?_) AllReadyH.nil
                        go_simp
                        refine (HPK3.out Q2 (hbr.trans (hq2.mono hbr.size))).mono ?_
                        rintro e Q1 ⟨rfl, rfl⟩
                        dsimp only
                        refine hK.out _ _ (HR3.out _ hq2) (fun hHeld => ?_)
                        clear hK K
                        refine wpAnyH_take (i := 13) (oi := { dst := some 86, op := Op.indexAddr 47 (Operand.tmp 81) (Operand.tmp 85), type := 0, pos := "laws.go:772", after := #[{ on := 8, ground := Ground.data }, { on := 12, ground := Ground.data }], guard := none }) (v := ?_) rfl (by kernel_rfl) (by kernel_rfl) (by kernel_rfl) (fun _ _ _ h => h) (Or.inl ⟨by rfl, ?_⟩) hHeld ?_
                        rotate_left 1
                        · intro w' hSw
                          obtain ⟨_, y1⟩ := hSw
                          go_simp
                          try with_reducible rfl
                        simp only [Act.put, List.setIfInBounds_toArray, List.set_cons_zero, List.set_cons_succ]
                        refine wpAnyH_ready (rs := [14]) (by kernel_rfl) (by simp) ?_
                        refine AllReadyH.cons (o := { dst := some 87, op := Op.load 57 (Operand.tmp 86), type := 57, pos := "laws.go:772", after := #[{ on := 13, ground := Ground.data }], guard := none }) rfl (fun K hK => ?_) AllReadyH.nil
                        go_simp
                        refine hK.out _ _ (HR3.out _ hq2) (fun hHeld => ?_)
                        clear hK K
                        refine wpAnyH_take (i := 15) (oi := { dst := some 88, op := Op.indexAddr 47 (Operand.tmp 76) (Operand.tmp 77), type := 0, pos := "laws.go:772", after := #[{ on := 3, ground := Ground.data }, { on := 4, ground := Ground.data }, { on := 0, ground := Ground.phase }, { on := 1, ground := Ground.phase }, { on := 2, ground := Ground.phase }, { on := 3, ground := Ground.phase }, { on := 4, ground := Ground.phase }, { on := 5, ground := Ground.phase }, { on := 6, ground := Ground.phase }, { on := 7, ground := Ground.phase }, { on := 8, ground := Ground.phase }, { on := 9, ground := Ground.phase }, { on := 10, ground := Ground.phase }, { on := 11, ground := Ground.phase }, { on := 12, ground := Ground.phase }, { on := 13, ground := Ground.phase }, { on := 14, ground := Ground.phase }], guard := none }) (v := ?_) rfl (by kernel_rfl) (by kernel_rfl) (by kernel_rfl) (fun _ _ _ h => h) (Or.inl ⟨by rfl, ?_⟩) hHeld ?_
                        rotate_left 1
                        · intro w' hSw
                          obtain ⟨_, y1⟩ := hSw
                          go_simp
                          try with_reducible rfl
                        simp only [Act.put, List.setIfInBounds_toArray, List.set_cons_zero, List.set_cons_succ]
                        have hd2 : Below V1.heap.size V1 Q2 := hbr.trans (hq2.mono hbr.size)
                        have hTQ : Tp V1.heap.size My Q2 { R with frames := [{ f with loc := l }] } 1 0 { f with loc := l } G fcap vS (.slice (some ⟨gL, 0, none⟩) l.length c8) vh vs ch cf Th Tf := by
                          rw [hl8.out]
                          exact hT.out.on hq2
                        have hle8 : ({ f with loc := l } : Fr).loc.length = 8 := hl8.out
                        have HS2 : Hid (Tp V1.heap.size My (setV Q2 gL k x3) { R with frames := [{ f with loc := l.set k x3 }] } 1 0 { f with loc := l.set k x3 } G fcap vS (.slice (some ⟨gL, 0, none⟩) 8 c8) vh vs ch cf Th Tf) := by
                          show Tp _ _ _ _ _ _ _ _ _ _ _ _ _ _ _ _ _
                          have := hTQ.setLoc hd2.size (k := k) (by rw [hle8]; exact hlt) x3
                          rw [hle8] at this
                          exact this
                        have hgL1 : V1.heap.size ≤ gL := hTQ.own.low gL (.inr (.inl (.inr ⟨0, 1, hgL⟩)))
                        have hgV : Below V1.heap.size V1 (setV Q2 gL k x3) := (hd2.setCell (p := ⟨gL, k * 2, none⟩) hgL1 _).setCell (p := ⟨gL, k * 2 + 1, none⟩) hgL1 _
                        have hSV : Below V1.heap.size V1 (setV Q2 gL k x3) ∧ (setV Q2 gL k x3).cell? ⟨G, 4, none⟩ = some (.slice (some ⟨gL, 0, none⟩) 8 c8) := by
                          refine ⟨hgV, ?_⟩
                          have := HS2.out.cell (d := 4) (by omega)
                          simpa using this
                        obtain ⟨gz, cz, hvz, _, _, hcz, hmz⟩ | ⟨hvz, _⟩ := hTQ.loc
                        · have hge : gz = gL := by simp at hvz; exact hvz.1.symm
                          subst hge
                          obtain ⟨s0, s1⟩ := hcz k _ (List.getElem?_eq_getElem (show k < l.length by rw [hl8.out]; exact hlt))
                          have t0 := (hmz (k * 2) (show k * 2 < l.length * 2 by rw [hl8.out]; omega)).2
                          have t1 := (hmz (k * 2 + 1) (show k * 2 + 1 < l.length * 2 by rw [hl8.out]; omega)).2
                          clear hcz hmz hTQ hvz hle8
                          refine wpAnyH_ready (rs := [16]) (by kernel_rfl) (by simp) ?_
                          refine AllReadyH.cons (o := { dst := none, op := Op.store 57 (Operand.tmp 88) (Operand.tmp 87), type := 0, pos := "laws.go:772", after := #[{ on := 15, ground := Ground.data }, { on := 14, ground := Ground.data }, { on := 12, ground := Ground.chain }, { on := 0, ground := Ground.phase }, { on := 1, ground := Ground.phase }, { on := 2, ground := Ground.phase }, { on := 3, ground := Ground.phase }, { on := 4, ground := Ground.phase }, { on := 5, ground := Ground.phase }, { on := 6, ground := Ground.phase }, { on := 7, ground := Ground.phase }, { on := 8, ground := Ground.phase }, { on := 9, ground := Ground.phase }, { on := 10, ground := Ground.phase }, { on := 11, ground := Ground.phase }, { on := 12, ground := Ground.phase }, { on := 13, ground := Ground.phase }, { on := 14, ground := Ground.phase }], guard := none }) rfl (fun K hK => ?_) AllReadyH.nil
                          go_simp
                          refine hK.out _ _ hSV (fun hHeld => ?_)
                          clear hK K
                          refine wpAnyH_done (by kernel_rfl) ?_ _
                          have hl8' : Hid ((l.set k x3).length = 8) := by show _ = _; rw [List.length_set]; exact hl8.out
                          have hlv' : Hid (VsOk (l.set k x3)) := vs_set hlv.out HX3.out.1 k
                          have hll' : Hid (∀ v, v < 8 → lvB a p v = true → (l.set k x3)[v]? = f.loc[v]?) := fun v hv h => by
                            rw [List.getElem?_set_ne (fun e => by rw [← e, HLVE.out] at h; cases h)]
                            exact hll.out v hv h
                          clear hHeld s0 s1 t0 t1 e0 e1 NC hSV hd2 hq2 hD0 hQ0
                          go_wp2
                          go_roundw
                          case rel => exact ⟨k + 1, _, by omega, by go_num, hl8'.out, hlv'.out, hll'.out, HS2.out, hgV⟩
                          case measure => simp [intOf]; omega
                        · simp at hvz
                      · go_simp
                        refine (HPK3.out Q0 (hbr.trans (hD0.mono hbr.size))).mono ?_
                        rintro e Q1 ⟨rfl, rfl⟩
                        dsimp only
                        refine hK.out _ _ (HR3.out _ hD0) (fun hHeld => ?_)
                        clear hK K
                        refine wpAnyH_ready (rs := [8]) (by kernel_rfl) (by simp) ?_
                        refine AllReadyH.cons (o := { dst := some 81, op := Op.buildSlice 47 3 #[(0, Operand.tmp 78), (1, Operand.tmp 79), (2, Operand.tmp 80)], type := 47, pos := "laws.go:772", after := #[{ on := 5, ground := Ground.data }, { on := 6, ground := Ground.data }, { on := 7, ground := Ground.data }], guard := none }) rfl (fun K hK => ?_) AllReadyH.nil
                        go_simp
                        have hq2 : Below wr.heap.size wr (Q0.alloc (.cells #[.int .i64 1, .int .i64 77, .int .i64 3, .int .i64 0, .int .i64 2, .int .i64 0] 57)) := hD0.alloc hQ0 _
                        have NC : Cells (Q0.alloc (.cells #[.int .i64 1, .int .i64 77, .int .i64 3, .int .i64 0, .int .i64 2, .int .i64 0] 57)) Q0.heap.size [.int .i64 1, .int .i64 77, .int .i64 3, .int .i64 0, .int .i64 2, .int .i64 0] := Cells.new Q0 _ rfl _ _
                        refine hK.out _ _ (HR3.out _ hq2) (fun hHeld => ?_)
                        clear hK K
                        generalize Q0.alloc (.cells #[.int .i64 1, .int .i64 77, .int .i64 3, .int .i64 0, .int .i64 2, .int .i64 0] 57) = Q2 at *
                        have e0 := (NC (n3 * 2) _ HX3.out.2.1).1
                        have e1 := (NC (n3 * 2 + 1) _ HX3.out.2.2).1
                        refine wpAnyH_take (i := 13) (oi := { dst := some 86, op := Op.indexAddr 47 (Operand.tmp 81) (Operand.tmp 85), type := 0, pos := "laws.go:772", after := #[{ on := 8, ground := Ground.data }, { on := 12, ground := Ground.data }], guard := none }) (v := ?_) rfl (by kernel_rfl) (by kernel_rfl) (by kernel_rfl) (fun _ _ _ h => h) (Or.inl ⟨by rfl, ?_⟩) hHeld ?_
                        rotate_left 1
                        · intro w' hSw
                          obtain ⟨_, y1⟩ := hSw
                          go_simp
                          try with_reducible rfl
                        simp only [Act.put, List.setIfInBounds_toArray, List.set_cons_zero, List.set_cons_succ]
                        refine wpAnyH_ready (rs := [14]) (by kernel_rfl) (by simp) ?_
                        refine AllReadyH.cons (o := { dst := some 87, op := Op.load 57 (Operand.tmp 86), type := 57, pos := "laws.go:772", after := #[{ on := 13, ground := Ground.data }], guard := none }) rfl (fun K hK => ?_) AllReadyH.nil
                        go_simp
                        refine hK.out _ _ (HR3.out _ hq2) (fun hHeld => ?_)
                        clear hK K
                        refine wpAnyH_take (i := 15) (oi := { dst := some 88, op := Op.indexAddr 47 (Operand.tmp 76) (Operand.tmp 77), type := 0, pos := "laws.go:772", after := #[{ on := 3, ground := Ground.data }, { on := 4, ground := Ground.data }, { on := 0, ground := Ground.phase }, { on := 1, ground := Ground.phase }, { on := 2, ground := Ground.phase }, { on := 3, ground := Ground.phase }, { on := 4, ground := Ground.phase }, { on := 5, ground := Ground.phase }, { on := 6, ground := Ground.phase }, { on := 7, ground := Ground.phase }, { on := 8, ground := Ground.phase }, { on := 9, ground := Ground.phase }, { on := 10, ground := Ground.phase }, { on := 11, ground := Ground.phase }, { on := 12, ground := Ground.phase }, { on := 13, ground := Ground.phase }, { on := 14, ground := Ground.phase }], guard := none }) (v := ?_) rfl (by kernel_rfl) (by kernel_rfl) (by kernel_rfl) (fun _ _ _ h => h) (Or.inl ⟨by rfl, ?_⟩) hHeld ?_
                        rotate_left 1
                        · intro w' hSw
                          obtain ⟨_, y1⟩ := hSw
                          go_simp
                          try with_reducible rfl
                        simp only [Act.put, List.setIfInBounds_toArray, List.set_cons_zero, List.set_cons_succ]
                        have hd2 : Below V1.heap.size V1 Q2 := hbr.trans (hq2.mono hbr.size)
                        have hTQ : Tp V1.heap.size My Q2 { R with frames := [{ f with loc := l }] } 1 0 { f with loc := l } G fcap vS (.slice (some ⟨gL, 0, none⟩) l.length c8) vh vs ch cf Th Tf := by
                          rw [hl8.out]
                          exact hT.out.on hq2
                        have hle8 : ({ f with loc := l } : Fr).loc.length = 8 := hl8.out
                        have HS2 : Hid (Tp V1.heap.size My (setV Q2 gL k x3) { R with frames := [{ f with loc := l.set k x3 }] } 1 0 { f with loc := l.set k x3 } G fcap vS (.slice (some ⟨gL, 0, none⟩) 8 c8) vh vs ch cf Th Tf) := by
                          show Tp _ _ _ _ _ _ _ _ _ _ _ _ _ _ _ _ _
                          have := hTQ.setLoc hd2.size (k := k) (by rw [hle8]; exact hlt) x3
                          rw [hle8] at this
                          exact this
                        have hgL1 : V1.heap.size ≤ gL := hTQ.own.low gL (.inr (.inl (.inr ⟨0, 1, hgL⟩)))
                        have hgV : Below V1.heap.size V1 (setV Q2 gL k x3) := (hd2.setCell (p := ⟨gL, k * 2, none⟩) hgL1 _).setCell (p := ⟨gL, k * 2 + 1, none⟩) hgL1 _
                        have hSV : Below V1.heap.size V1 (setV Q2 gL k x3) ∧ (setV Q2 gL k x3).cell? ⟨G, 4, none⟩ = some (.slice (some ⟨gL, 0, none⟩) 8 c8) := by
                          refine ⟨hgV, ?_⟩
                          have := HS2.out.cell (d := 4) (by omega)
                          simpa using this
                        obtain ⟨gz, cz, hvz, _, _, hcz, hmz⟩ | ⟨hvz, _⟩ := hTQ.loc
                        · have hge : gz = gL := by simp at hvz; exact hvz.1.symm
                          subst hge
                          obtain ⟨s0, s1⟩ := hcz k _ (List.getElem?_eq_getElem (show k < l.length by rw [hl8.out]; exact hlt))
                          have t0 := (hmz (k * 2) (show k * 2 < l.length * 2 by rw [hl8.out]; omega)).2
                          have t1 := (hmz (k * 2 + 1) (show k * 2 + 1 < l.length * 2 by rw [hl8.out]; omega)).2
                          clear hcz hmz hTQ hvz hle8
                          refine wpAnyH_ready (rs := [16]) (by kernel_rfl) (by simp) ?_
                          refine AllReadyH.cons (o := { dst := none, op := Op.store 57 (Operand.tmp 88) (Operand.tmp 87), type := 0, pos := "laws.go:772", after := #[{ on := 15, ground := Ground.data }, { on := 14, ground := Ground.data }, { on := 12, ground := Ground.chain }, { on := 0, ground := Ground.phase }, { on := 1, ground := Ground.phase }, { on := 2, ground := Ground.phase }, { on := 3, ground := Ground.phase }, { on := 4, ground := Ground.phase }, { on := 5, ground := Ground.phase }, { on := 6, ground := Ground.phase }, { on := 7, ground := Ground.phase }, { on := 8, ground := Ground.phase }, { on := 9, ground := Ground.phase }, { on := 10, ground := Ground.phase }, { on := 11, ground := Ground.phase }, { on := 12, ground := Ground.phase }, { on := 13, ground := Ground.phase }, { on := 14, ground := Ground.phase }], guard := none }) rfl (fun K hK => ?_) AllReadyH.nil
                          go_simp
                          refine hK.out _ _ hSV (fun hHeld => ?_)
                          clear hK K
                          refine wpAnyH_done (by kernel_rfl) ?_ _
                          have hl8' : Hid ((l.set k x3).length = 8) := by show _ = _; rw [List.length_set]; exact hl8.out
                          have hlv' : Hid (VsOk (l.set k x3)) := vs_set hlv.out HX3.out.1 k
                          have hll' : Hid (∀ v, v < 8 → lvB a p v = true → (l.set k x3)[v]? = f.loc[v]?) := fun v hv h => by
                            rw [List.getElem?_set_ne (fun e => by rw [← e, HLVE.out] at h; cases h)]
                            exact hll.out v hv h
                          clear hHeld s0 s1 t0 t1 e0 e1 NC hSV hd2 hq2 hD0 hQ0
                          go_wp2
                          go_roundw
                          case rel => exact ⟨k + 1, _, by omega, by go_num, hl8'.out, hlv'.out, hll'.out, HS2.out, hgV⟩
                          case measure => simp [intOf]; omega
                        · simp at hvz
                    · rw [hlive] at hev
                      generalize bn (lvB a p) 8 = bnv at *
                      clear hlive
                      go_wp2
                      go_roundw
                      case rel => exact ⟨k + 1, l, by omega, by go_num, hl8.out, hlv.out, hll.out, hT.out, hbr⟩
                      case measure => simp [intOf]; omega
                  · have hki : ¬ (k : Int) < 8 := by omega
                    go_upto_region 22 with fail
                    have HS0 : Hid (Sim a R { R with frames := [{ f with loc := l }] }) := Sim.locals HFS.out hl8.out H8.out fun v hv h => hll.out v hv (by rw [HPP.out, Int.toNat_natCast] at h; exact h)
                    have HMY : Hid (machB { R with frames := [{ f with loc := l }] } = true) := mach_locals HMB.out HFS.out hl8.out hlv.out
                    have HY0 : Hid (MSt (Mx + 1) My wr { R with frames := [{ f with loc := l }] }) := hT.out.st.base (by omega)
                    have HX0 : Hid (MSt W.heap.size Mx wr R) := (HLV1.out _ hbr).2.2.1
                    have hbW : Below W.heap.size W wr := (HLV1.out _ hbr).2.2.2
                    have HP0 : Hid (PosT R) := pos_way hl40 HWI.out.1 HWI.out.2
                    have HPR : Hid (∀ x, Below W.heap.size W x → SK front 0 x (.slice (some ⟨bp, 0, none⟩) (mainP a).length 1) (mainP a) ∧ Cells x w20.heap.size [.slice (some ⟨bp, 0, none⟩) 1 1] ∧ Below w.heap.size w x) := fun x hx => ⟨SK.on HSKW.out (Keep.of hx), P0.out.on hx, below_over hwW hx⟩
                    have hMxW : W.heap.size ≤ Mx := by obtain ⟨_, _, _, _, _, _, _, _, h, _⟩ := HX0.out; exact h
                    generalize ({ R with frames := [{ f with loc := l }] } : Mc) = Y at *
                    clear hT hll hlv hl8 hbr HLV1 HSKW P0 HX1 HX2 HY HMC hgL hpi hpl hl0i h1 hmem hf0 hfq hl0 h30 hfb hlt hki hk hMxV hMy hb1 hb2 hbW2 hp0 HLW HFW HLA
                    go_wp2
                    go_loopw [10] (fun i wr => ∃ (k : Nat) (m m' : Mc), k ≤ 60 ∧ i = .int .i64 (k : Int) ∧ Hid (MSt W.heap.size Mx wr m) ∧ Hid (MSt (Mx + 1) My wr m') ∧ Hid (machB m = true ∧ machB m' = true ∧ Sim a m m' ∧ PosT m ∧ (m.fin = 0 → WayI a m ∧ PosI a m)) ∧ Below W.heap.size W wr) (fun i _ => 60 - (intOf i).toNat)
                    case atStart => exact ⟨0, R, Y, Nat.zero_le _, rfl, HX0.out, HY0.out, ⟨HMB.out, HMY.out, HS0.out, HP0.out, fun _ => HWI.out⟩, hbW⟩
                    case round =>
                      clear HX0 HY0 HMY HS0 HP0 hbW HWI
                      obtain ⟨k, m, m', hk, rfl, hX, hY, hI, hbr⟩ := hrel
                      by_cases hlt : k < 60
                      · have hki : (k : Int) < 60 := by omega
                        obtain ⟨hmb, hmb', hsm, hpt, hwy⟩ := hI.out
                        have HMB1 : Hid (machB (steppedS (mainP a) m) = true) := mach_stepped HOK.out hmb
                        have HMB2 : Hid (machB (steppedS (mainP a) m') = true) := mach_stepped HOK.out hmb'
                        have HSI : Hid (Sim a (steppedS (mainP a) m) (steppedS (mainP a) m')) := sim_stepped HOK.out (fun h => (hwy h).1) hmb hmb' hsm
                        have HPT : Hid (PosT (steppedS (mainP a) m)) := pos_stepped HOK.out hmb hwy hpt
                        have HWY2 : Hid ((steppedS (mainP a) m).fin = 0 → WayI a (steppedS (mainP a) m) ∧ PosI a (steppedS (mainP a) m)) := way_stepped HOK.out hmb hwy
                        have HPY : Hid (PosT m') := hsm.pos hpt
                        have HPX : Hid (PosT m) := hpt
                        have HB1 : Hid (machB m = true) := hmb
                        have HB2 : Hid (machB m' = true) := hmb'
                        have h20 := ((mach_core m).1 hmb).1.s20
                        have E1 : Hid (m'.said = m.said) := hsm.said
                        have E2 : Hid (m'.fin = m.fin) := hsm.fin
                        have E3 : Hid (m'.code = m.code) := hsm.code
                        have E4 : Hid (m'.frames.length = m.frames.length) := hsm.len.symm
                        clear hmb hmb' hsm hpt hwy hI
                        obtain ⟨xh, xf, xs, xch, xcf, xTh, xTf, x1, _, x3, x4⟩ := hX.out
                        obtain ⟨yh, yf, ys, ych, ycf, yTh, yTf, y1, hy2, y3, y4⟩ := hY.out
                        obtain ⟨ax, cx, rfl⟩ := own_any x3.h.own
                        obtain ⟨bx, dx, rfl⟩ := own_any x3.f.own
                        obtain ⟨ex, gx, rfl⟩ := own_any x3.s
                        obtain ⟨ay, cy, rfl⟩ := own_any y3.h.own
                        obtain ⟨by', dy, rfl⟩ := own_any y3.f.own
                        obtain ⟨ey, gy, rfl⟩ := own_any y3.s
                        have KX : Hid (KV true 0 wr (.slice ax m.heap.length cx) (.slice bx m.frames.length dx) (.slice ex m.said.length gx) m) := x3.kv
                        have KY : Hid (KV true 0 wr (.slice ay m'.heap.length cy) (.slice by' m'.frames.length dy) (.slice ey m'.said.length gy) m') := y3.kv
                        have CX : Hid (Cells wr Mx [.slice ax m.heap.length cx, .slice bx m.frames.length dx, .slice ex m.said.length gx, .int .i64 m.fin, .int .i64 m.code]) := x1
                        have CY : Hid (Cells wr My [.slice ay m'.heap.length cy, .slice by' m'.frames.length dy, .slice ey m'.said.length gy, .int .i64 m'.fin, .int .i64 m'.code]) := y1
                        have hMxl : Mx < wr.heap.size := cell_lt CX.out.g0.1
                        have hMyl : My < wr.heap.size := cell_lt CY.out.g0.1
                        clear x1 x3 x4 y1 y3 y4
                        have z2 := CX.out.g2.1
                        have z3 := CX.out.g3.1
                        have v2 := CY.out.g2.1
                        have v3 := CY.out.g3.1
                        rw [E1.out] at v2
                        rw [E2.out] at v3
                        go_wp2_with fail
                        have HLS := likeSI 0 0 ex ey gx gy m.said (by omega) wr KX.out.2.2 (by have := KY.out.2.2; rw [E1.out] at this; exact this)
                        refine HLS.mono ?_
                        clear HLS
                        rintro e w1 ⟨rfl, hb1⟩
                        have z1 := (CX.out.on hb1).g1.1
                        have z4 := (CX.out.on hb1).g4.1
                        have v1 := (CY.out.on hb1).g1.1
                        have v4 := (CY.out.on hb1).g4.1
                        rw [E4.out] at v1
                        rw [E3.out] at v4
                        clear z2 z3 v2 v3
                        go_upto_region 27 with fail
                        have hbr1 : Below W.heap.size W w1 := below_over hbr hb1
                        have CX1 : Hid (Cells w1 Mx [.slice ax m.heap.length cx, .slice bx m.frames.length dx, .slice ex m.said.length gx, .int .i64 m.fin, .int .i64 m.code]) := CX.out.on hb1
                        have KX1 : Hid (KV true 0 w1 (.slice ax m.heap.length cx) (.slice bx m.frames.length dx) (.slice ex m.said.length gx) m) := KX.out.on (Keep.of hb1)
                        have HY1 : Hid (MSt (Mx + 1) My w1 m') := hY.out.on hb1
                        have hMx1 : Mx < w1.heap.size := Nat.lt_of_lt_of_le hMxl hb1.size
                        have hMy1 : My < w1.heap.size := Nat.lt_of_lt_of_le hMyl hb1.size
                        have p0 := (HPR.out _ hbr1).2.1.g0.1
                        obtain ⟨a0', _⟩ := CX1.out.g0
                        obtain ⟨a1', _⟩ := CX1.out.g1
                        obtain ⟨a2', _⟩ := CX1.out.g2
                        obtain ⟨a3', _⟩ := CX1.out.g3
                        obtain ⟨a4', _⟩ := CX1.out.g4
                        clear z1 z4 v1 v4 hX hY CX CY KX KY hb1 E1 E2 E3 E4
                        go_wp2_with fail
                        have HSTP := specStepped_at 0 (mainP a) bp 0 1 HPO.out HSMP.out 0 m HB1.out HPX.out ax bx ex cx dx gx w1 (HPR.out _ hbr1).1 KX1.out
                        rw [hPl] at HSTP
                        refine HSTP.mono ?_
                        clear HSTP a0' a1' a2' a3' a4' p0
                        rintro e w2 ⟨vh, vf, vs, ch, cf, Th, Tf, rfl, hown, hb2⟩
                        obtain ⟨ux, qx, rfl⟩ := own_any hown.h.own
                        obtain ⟨u2, q2, rfl⟩ := own_any hown.f.own
                        obtain ⟨u3, q3, rfl⟩ := own_any hown.s
                        generalize steppedS (mainP a) m = mx at *
                        have CX2 := CX1.out.on hb2
                        have hbr2 : Below W.heap.size W w2 := below_over hbr1 hb2
                        have HMX2 : Hid (Cells (((((w2.setCell ⟨Mx, 0, none⟩ (.slice ux mx.heap.length qx)).setCell ⟨Mx, 1, none⟩ (.slice u2 mx.frames.length q2)).setCell ⟨Mx, 2, none⟩ (.slice u3 mx.said.length q3)).setCell ⟨Mx, 3, none⟩ (.int .i64 mx.fin)).setCell ⟨Mx, 4, none⟩ (.int .i64 mx.code)) Mx [.slice ux mx.heap.length qx, .slice u2 mx.frames.length q2, .slice u3 mx.said.length q3, .int .i64 mx.fin, .int .i64 mx.code]) := five_cells CX2 _ _ _ _ _
                        have HOX : Hid (MOwn w1.heap.size (((((w2.setCell ⟨Mx, 0, none⟩ (.slice ux mx.heap.length qx)).setCell ⟨Mx, 1, none⟩ (.slice u2 mx.frames.length q2)).setCell ⟨Mx, 2, none⟩ (.slice u3 mx.said.length q3)).setCell ⟨Mx, 3, none⟩ (.int .i64 mx.fin)).setCell ⟨Mx, 4, none⟩ (.int .i64 mx.code)) (.slice ux mx.heap.length qx) (.slice u2 mx.frames.length q2) (.slice u3 mx.said.length q3) mx ch cf Th Tf) := by
                          refine hown.moved (by simp) fun k hk => ?_
                          have hl := hown.low k hk
                          have hne : Mx ≠ k := by omega
                          rw [set_blocks _ _ _ _ hne, set_blocks _ _ _ _ hne, set_blocks _ _ _ _ hne, set_blocks _ _ _ _ hne, set_blocks _ _ _ _ hne]
                        have HY2 : Hid (MSt (Mx + 1) My (((((w2.setCell ⟨Mx, 0, none⟩ (.slice ux mx.heap.length qx)).setCell ⟨Mx, 1, none⟩ (.slice u2 mx.frames.length q2)).setCell ⟨Mx, 2, none⟩ (.slice u3 mx.said.length q3)).setCell ⟨Mx, 3, none⟩ (.int .i64 mx.fin)).setCell ⟨Mx, 4, none⟩ (.int .i64 mx.code)) m') := (HY1.out.on hb2).five (by omega) _ _ _ _ _
                        have hbX : Below W.heap.size W (((((w2.setCell ⟨Mx, 0, none⟩ (.slice ux mx.heap.length qx)).setCell ⟨Mx, 1, none⟩ (.slice u2 mx.frames.length q2)).setCell ⟨Mx, 2, none⟩ (.slice u3 mx.said.length q3)).setCell ⟨Mx, 3, none⟩ (.int .i64 mx.fin)).setCell ⟨Mx, 4, none⟩ (.int .i64 mx.code)) := five_below hbr2 hMxW _ _ _ _ _
                        have hXs : w1.heap.size ≤ (((((w2.setCell ⟨Mx, 0, none⟩ (.slice ux mx.heap.length qx)).setCell ⟨Mx, 1, none⟩ (.slice u2 mx.frames.length q2)).setCell ⟨Mx, 2, none⟩ (.slice u3 mx.said.length q3)).setCell ⟨Mx, 3, none⟩ (.int .i64 mx.fin)).setCell ⟨Mx, 4, none⟩ (.int .i64 mx.code)).heap.size := by simp; exact hb2.size
                        obtain ⟨r0, q0'⟩ := CX2.g0
                        obtain ⟨r1, q1'⟩ := CX2.g1
                        obtain ⟨r2, q2'⟩ := CX2.g2
                        obtain ⟨r3, q3'⟩ := CX2.g3
                        obtain ⟨r4, q4'⟩ := CX2.g4
                        clear CX2 hown hb2 CX1 KX1 HY1
                        go_upto_region 28 with fail
                        clear r0 r1 r2 r3 r4 q0' q1' q2' q3' q4'
                        generalize ((((w2.setCell ⟨Mx, 0, none⟩ (.slice ux mx.heap.length qx)).setCell ⟨Mx, 1, none⟩ (.slice u2 mx.frames.length q2)).setCell ⟨Mx, 2, none⟩ (.slice u3 mx.said.length q3)).setCell ⟨Mx, 3, none⟩ (.int .i64 mx.fin)).setCell ⟨Mx, 4, none⟩ (.int .i64 mx.code) = X at *
                        obtain ⟨yh, yf, ys, ych, ycf, yTh, yTf, y1, _, y3, y4⟩ := HY2.out
                        obtain ⟨ay, cy, rfl⟩ := own_any y3.h.own
                        obtain ⟨by', dy, rfl⟩ := own_any y3.f.own
                        obtain ⟨ey, gy, rfl⟩ := own_any y3.s
                        have KY : Hid (KV true 0 X (.slice ay m'.heap.length cy) (.slice by' m'.frames.length dy) (.slice ey m'.said.length gy) m') := y3.kv
                        have CY : Hid (Cells X My [.slice ay m'.heap.length cy, .slice by' m'.frames.length dy, .slice ey m'.said.length gy, .int .i64 m'.fin, .int .i64 m'.code]) := y1
                        have p0 := (HPR.out _ hbX).2.1.g0.1
                        obtain ⟨a0', _⟩ := CY.out.g0
                        obtain ⟨a1', _⟩ := CY.out.g1
                        obtain ⟨a2', _⟩ := CY.out.g2
                        obtain ⟨a3', _⟩ := CY.out.g3
                        obtain ⟨a4', _⟩ := CY.out.g4
                        clear y1 y3 y4
                        go_wp2_with fail
                        have HSTP := specStepped_at 0 (mainP a) bp 0 1 HPO.out HSMP.out 0 m' HB2.out HPY.out ay by' ey cy dy gy X (HPR.out _ hbX).1 KY.out
                        rw [hPl] at HSTP
                        refine HSTP.mono ?_
                        clear HSTP a0' a1' a2' a3' a4' p0
                        rintro e w4 ⟨vh, vf, vs, ch', cf', Th', Tf', rfl, hown, hb4⟩
                        obtain ⟨t1, s1, rfl⟩ := own_any hown.h.own
                        obtain ⟨t2, s2, rfl⟩ := own_any hown.f.own
                        obtain ⟨t3, s3, rfl⟩ := own_any hown.s
                        generalize steppedS (mainP a) m' = my at *
                        have CY4 := CY.out.on hb4
                        have HXZ : Hid (MSt W.heap.size Mx (((((w4.setCell ⟨My, 0, none⟩ (.slice t1 my.heap.length s1)).setCell ⟨My, 1, none⟩ (.slice t2 my.frames.length s2)).setCell ⟨My, 2, none⟩ (.slice t3 my.said.length s3)).setCell ⟨My, 3, none⟩ (.int .i64 my.fin)).setCell ⟨My, 4, none⟩ (.int .i64 my.code)) mx) := MSt.two (HMX2.out.on hb4) (HOX.out.on hb4) hbr1.size hMxW hMx1 hMy1 (by omega) _ _ _ _ _
                        have HYZ : Hid (MSt (Mx + 1) My (((((w4.setCell ⟨My, 0, none⟩ (.slice t1 my.heap.length s1)).setCell ⟨My, 1, none⟩ (.slice t2 my.frames.length s2)).setCell ⟨My, 2, none⟩ (.slice t3 my.said.length s3)).setCell ⟨My, 3, none⟩ (.int .i64 my.fin)).setCell ⟨My, 4, none⟩ (.int .i64 my.code)) my) := MSt.early hown (by omega) hy2 (by omega) CY4 rfl
                        have hbZ : Hid (Below W.heap.size W (((((w4.setCell ⟨My, 0, none⟩ (.slice t1 my.heap.length s1)).setCell ⟨My, 1, none⟩ (.slice t2 my.frames.length s2)).setCell ⟨My, 2, none⟩ (.slice t3 my.said.length s3)).setCell ⟨My, 3, none⟩ (.int .i64 my.fin)).setCell ⟨My, 4, none⟩ (.int .i64 my.code))) := five_below (below_over hbX hb4) (by omega) _ _ _ _ _
                        obtain ⟨r0, q0'⟩ := CY4.g0
                        obtain ⟨r1, q1'⟩ := CY4.g1
                        obtain ⟨r2, q2'⟩ := CY4.g2
                        obtain ⟨r3, q3'⟩ := CY4.g3
                        obtain ⟨r4, q4'⟩ := CY4.g4
                        clear CY4 hown hb4 CY KY HMX2 HOX HY2 hbX hbr1 hbr2
                        go_wp2
                        go_roundw
                        case rel => exact ⟨k + 1, mx, my, by omega, by go_num, HXZ.out, HYZ.out, ⟨HMB1.out, HMB2.out, HSI.out, HPT.out, HWY2.out⟩, hbZ.out⟩
                        case measure => simp [intOf]; omega
                      · have hki : ¬ (k : Int) < 60 := by omega
                        go_wp2
                        go_ret
                        exact ⟨rfl, (HPR.out _ hbr).2.2⟩
              · have hpi : ¬ f.pos < (a.length : Int) := by omega
                go_wp2
                go_ret
                exact ⟨rfl, below_over hwW hbW2⟩
            · have h1b : ((R.frames.length : Int) != 1) = true := by simp; omega
              go_wp2
              go_ret
              exact ⟨rfl, below_over hwW hbW2⟩
          · rw [hnil] at h8
            simp at h8
        · have hfb : (R.fin != 0) = true := by simpa using hf
          clear x1 x2 x3 x4
          go_wp2
          go_ret
          exact ⟨rfl, below_over hwW hbW2⟩
end Pg
end Go.Proofs.Ytffkkhaiedhaiaa

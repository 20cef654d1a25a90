/- Contracts: the specification's Loaded and FoldedAll. -/
import Derived.Test.YthabenjodhjgiaaKq1
import Derived.Test.YthabenjodhjgiaaAl0
namespace Go.Proofs.Ythabenjodhjgiaa
namespace Pg
open Go.ChangeShapes Go.WideShapes Go.ChangeAt Go.RowKit St Wd

theorem rowK_at {B : Nat} {w : World} {G n : Nat} {K : Kw} {f cp : Nat → Nat} (h : RowsK B w G n K f cp) {i : Nat} (hi : i < n) (hr : K i 0 ≠ none) : w.cell? ⟨G, i, none⟩ = some (.slice (some ⟨f i, 0, none⟩) 8 (cp i)) ∧ ∀ j v, j < 8 → K i j = some v → w.cell? ⟨f i, j, none⟩ = some (.int .i64 v) := by
  obtain ⟨h1, h3, h4, h5⟩ := h
  refine ⟨?_, fun j v hj hv => ?_⟩
  · have := (h1 i _ (cellsG_at _ _ _ hi)).1
    rwa [show slcK K f cp i = .slice (some ⟨f i, 0, none⟩) 8 (cp i) from by simp [slcK, hr]] at this
  · obtain ⟨_, _, _, q4⟩ := h4 i hi hr
    have := (q4 j (.int .i64 ((K i j).getD 0)) (by simp [nums, rowL, hj])).1
    rw [hv] at this
    exact this
set_option maxRecDepth 100000 in
set_option maxHeartbeats 4000000 in
theorem l10Loaded_at (g cap : Nat) (code : List Tx.Ins) (hok : Lay.codeOk code = true) (w : World) (hrow : Row w g 0 code) :
    Calls Try.prog 39 #[.slice (some ⟨g, 0, none⟩) code.length cap] w fun e w' => ∃ x, e = .returned x ∧ (Got w.heap.size w' x (loadF code) ∧ LeastK code (knF code)) ∧ Below w.heap.size w w' := by
  have hl40 := (Lay.ok_len hok).2
  have hli : (code.length : Int) ≤ 40 := by omega
  have HOK : Hid (Lay.codeOk code = true) := hok
  have HR : Hid (Row w g 0 code) := hrow
  clear hrow hok
  go_enter Try.func39, Try.ntmps39
  go_wp2_with fail
  refine (l10Known_at g cap code HOK.out w HR.out).mono ?_
  rintro e w1 ⟨G, K, K2, f, cp, rfl, hle, hk2, hrows, hb1⟩
  have HWD : Hid (∀ i j, i < code.length → j < 8 → K2 i j = some (wdF code i j)) := fun i j hi hj => by rw [hk2 i j hi hj, wd_is hle hi hj]
  have HLK : Hid (LeastK code (knF code)) := kn_least hle
  have HRK : Hid (RowsK w.heap.size w1 G code.length K2 f cp) := hrows
  have HRA : Hid (Row (w1.alloc (.cells #[] 43)) g 0 code) := (HR.out.on hb1).on ((Below.refl _ _).alloc (Nat.le_refl _) _)
  clear hle hk2 hrows
  go_wp2_with (at_builtin; refine wpList_growC rfl _ _ rfl w1.heap.size _ [] rfl (growC_nil w1) (by simp) g 0 cap code rfl HRA.out (by simp; omega) ?_)
  intro v w2 hown hgrow hb
  have hb12 : Below w1.heap.size w1 w2 := ((Below.refl _ _).alloc (Nat.le_refl _) _).trans hb
  have hown' : GrowC w1.heap.size w2 v code := by simpa using hown
  obtain ⟨gv, cv, rfl, hcv⟩ := hown'.form2
  obtain ⟨g', c', he, hg1, hg2, hgr, hgm⟩ := hown'.got
  obtain ⟨rfl, rfl⟩ : gv = g' ∧ cv = c' := by simpa using he
  have HGR : Hid (Row w2 gv 0 (partL code 0)) := by show Row _ _ _ _; rw [partL_zero]; exact hgr
  have HGM : Hid (Room w2 gv (code.length * 3)) := hgm
  clear hown hgrow hb hown' HRA hcv he hgr hgm
  go_wp2_with fail
  go_loopw [5] (fun i wr => ∃ k : Nat, k ≤ code.length ∧ i = .int .i64 (k : Int) ∧ Hid (Row wr gv 0 (partL code k)) ∧ Hid (Room wr gv (code.length * 3)) ∧ gv < wr.heap.size ∧ Below w1.heap.size w1 wr) (fun i _ => code.length - (intOf i).toNat)
  case atStart => exact ⟨0, Nat.zero_le _, rfl, HGR.out, HGM.out, hg2, hb12⟩
  case round =>
    clear HGR HGM hg2 hb12
    obtain ⟨k, hk, rfl, hrw, hrm, hgw, hbw⟩ := hrel
    by_cases hlt : k < code.length
    · have hki : (k : Int) < (code.length : Int) := by omega
      obtain ⟨d0, d1, d2⟩ := hrw.out k _ (by rw [partL_at _ _ hlt, if_neg (by omega)])
      simp only [Nat.zero_add] at d0 d1 d2
      have HLD : Hid (ldI code k = if (insF code k).1 = 2 ∧ wdF code k (insF code k).2.1.toNat ≠ UnK then (1, wdF code k (insF code k).2.1.toNat, 0) else insF code k) := rfl
      have HST : Hid (ldI code k = insF code k → partL code (k + 1) = partL code k) := fun h => partL_stay hlt h
      by_cases h2 : (insF code k).1 = 2
      · have hA := op3_A HOK.out hlt (.inr h2)
        obtain ⟨a, ha⟩ : ∃ a : Nat, (insF code k).2.1 = (a : Int) := ⟨(insF code k).2.1.toNat, by omega⟩
        have ha8 : a < 8 := by omega
        have ha8i : (a : Int) < 8 := by omega
        rw [h2] at d0
        rw [ha] at d1
        rw [h2, ha, Int.toNat_natCast] at HLD
        have hrows := HRK.out.on hbw
        have hn0 : K2 k 0 ≠ none := by rw [HWD.out k 0 hlt (by omega)]; simp
        obtain ⟨cK, hcv⟩ := rowK_at hrows hlt hn0
        have cV := hcv a _ ha8 (HWD.out k a hlt ha8)
        clear hA hrows hcv hn0
        generalize hwv : wdF code k a = wv at *
        have r0 := cell_regrown d0
        have r1 := cell_regrown d1
        have r2 := cell_regrown cK
        have r3 := cell_regrown cV
        by_cases hU : wv = 1099511627776
        · have hU1 : (wv != 1099511627776) = false := by simp [hU]
          have HE : Hid (partL code (k + 1) = partL code k) := HST.out (by rw [HLD.out, if_neg (fun h => h.2 hU)])
          clear HLD HST hU hwv
          go_upto_region 6 with fail
          refine wp_region_quiet_below (by kernel_rfl) (by kernel_rfl) ?_
          repeat (go_big_quiet_step (fail))
          refine wpQuiet_nil ?_
          intro _ hw'
          obtain ⟨⟨dq, osq⟩, hw''⟩ := hw'
          subst hw''
          have hbq := below_regrown wr dq osq
          have N1 : Hid (Row (Sort.grow (redrawn wr dq) osq) gv 0 (partL code (k + 1))) := by show Row _ _ _ _; rw [HE.out]; exact hrw.out.on hbq
          have N2 : Hid (Room (Sort.grow (redrawn wr dq) osq) gv (code.length * 3)) := hrm.out.on hbq
          have hgq : gv < (Sort.grow (redrawn wr dq) osq).heap.size := Nat.lt_of_lt_of_le hgw hbq.size
          have hbQ : Below w1.heap.size w1 (Sort.grow (redrawn wr dq) osq) := below_over hbw hbq
          clear r0 r1 r2 r3 cK cV d0 d1 d2 hrw hrm hbq HE hbw hgw
          generalize Sort.grow (redrawn wr dq) osq = W5 at *
          go_wp2
          go_roundw
          case rel => exact ⟨k + 1, by omega, by go_num, N1.out, N2.out, hgq, hbQ⟩
          case measure => simp [intOf]; omega
        · have hU1 : (wv != 1099511627776) = true := by simp [hU]
          have HE : Hid (ldI code k = (1, wv, 0)) := by show _ = _; rw [HLD.out, if_pos ⟨rfl, hU⟩]
          have HPS : Hid ((partL code k).set k (ldI code k) = partL code (k + 1)) := partL_step hlt
          clear HLD HST hU hwv
          go_upto_region 6 with fail
          refine wp_region_quiet_below (by kernel_rfl) (by kernel_rfl) ?_
          repeat (go_big_quiet_step (fail))
          refine wpQuiet_nil ?_
          intro _ hw'
          obtain ⟨⟨dq, osq⟩, hw''⟩ := hw'
          subst hw''
          have hbq := below_regrown wr dq osq
          have N1 : Hid (Row (Sort.grow (redrawn wr dq) osq) gv 0 (partL code k)) := hrw.out.on hbq
          have N2 : Hid (Room (Sort.grow (redrawn wr dq) osq) gv (code.length * 3)) := hrm.out.on hbq
          have hgq : gv < (Sort.grow (redrawn wr dq) osq).heap.size := Nat.lt_of_lt_of_le hgw hbq.size
          have hbQ : Below w1.heap.size w1 (Sort.grow (redrawn wr dq) osq) := below_over hbw hbq
          have y0 := r0 dq osq
          have y1 := r1 dq osq
          have y2 := r2 dq osq
          have y3 := r3 dq osq
          clear r0 r1 r2 r3 cK cV d0 d1 d2 hrw hrm hbq hbw hgw
          generalize Sort.grow (redrawn wr dq) osq = W5 at *
          obtain ⟨⟨x0, s0⟩, z0⟩ := N2.out (k * 3) (by omega)
          obtain ⟨⟨x1, s1⟩, z1⟩ := N2.out (k * 3 + 1) (by omega)
          obtain ⟨⟨x2, s2⟩, z2⟩ := N2.out (k * 3 + 2) (by omega)
          obtain ⟨p1, p2, p3⟩ := set_one (k := k) (partL_len code k) N2.out N1.out hbQ hg1 (1, wv, 0)
          have P1 : Hid (Row (((W5.setCell ⟨gv, k * 3, none⟩ (.int .i64 1)).setCell ⟨gv, k * 3 + 1, none⟩ (.int .i64 wv)).setCell ⟨gv, k * 3 + 2, none⟩ (.int .i64 0)) gv 0 (partL code (k + 1))) := by show Row _ _ _ _; rw [← HPS.out, HE.out]; exact p1
          have P2 : Hid (Room (((W5.setCell ⟨gv, k * 3, none⟩ (.int .i64 1)).setCell ⟨gv, k * 3 + 1, none⟩ (.int .i64 wv)).setCell ⟨gv, k * 3 + 2, none⟩ (.int .i64 0)) gv (code.length * 3)) := p2
          have P3 : Below w1.heap.size w1 (((W5.setCell ⟨gv, k * 3, none⟩ (.int .i64 1)).setCell ⟨gv, k * 3 + 1, none⟩ (.int .i64 wv)).setCell ⟨gv, k * 3 + 2, none⟩ (.int .i64 0)) := p3
          have hgP : gv < (((W5.setCell ⟨gv, k * 3, none⟩ (.int .i64 1)).setCell ⟨gv, k * 3 + 1, none⟩ (.int .i64 wv)).setCell ⟨gv, k * 3 + 2, none⟩ (.int .i64 0)).heap.size := by simpa using hgq
          clear p1 p2 p3 N1 N2 hgq hbQ HPS HE
          go_upto_region 7 with fail
          apply meetP
          case h => intro hp; go_region_law fail; all_goals exact hp
          have P1' : Hid (Row (((W5.setCell ⟨gv, k * 3, none⟩ (.int .i64 1)).setCell ⟨gv, k * 3 + 1, none⟩ (.int .i64 wv)).setCell ⟨gv, k * 3 + 2, none⟩ (.int .i64 0)).drew gv 0 (partL code (k + 1))) := P1.out
          have P2' : Hid (Room (((W5.setCell ⟨gv, k * 3, none⟩ (.int .i64 1)).setCell ⟨gv, k * 3 + 1, none⟩ (.int .i64 wv)).setCell ⟨gv, k * 3 + 2, none⟩ (.int .i64 0)).drew gv (code.length * 3)) := P2.out
          have P3' := P3.drew
          clear P1 P2 P3 y0 y1 y2 y3
          go_wp2
          go_roundw
          case rel => exact ⟨k + 1, by omega, by go_num, P1'.out, P2'.out, hgP, P3'⟩
          case measure => simp [intOf]; omega
      · have h2b : ((insF code k).1 == 2) = false := by simp [h2]
        have HE : Hid (partL code (k + 1) = partL code k) := HST.out (by rw [HLD.out, if_neg (fun h => h2 h.1)])
        have r0 := cell_regrown d0
        clear HLD HST h2
        generalize (insF code k).1 = op at *
        go_upto_region 6 with fail
        refine wp_region_quiet_below (by kernel_rfl) (by kernel_rfl) ?_
        repeat (go_big_quiet_step (fail))
        refine wpQuiet_nil ?_
        intro _ hw'
        obtain ⟨⟨dq, osq⟩, hw''⟩ := hw'
        subst hw''
        have hbq := below_regrown wr dq osq
        have N1 : Hid (Row (Sort.grow (redrawn wr dq) osq) gv 0 (partL code (k + 1))) := by show Row _ _ _ _; rw [HE.out]; exact hrw.out.on hbq
        have N2 : Hid (Room (Sort.grow (redrawn wr dq) osq) gv (code.length * 3)) := hrm.out.on hbq
        have hgq : gv < (Sort.grow (redrawn wr dq) osq).heap.size := Nat.lt_of_lt_of_le hgw hbq.size
        have hbQ : Below w1.heap.size w1 (Sort.grow (redrawn wr dq) osq) := below_over hbw hbq
        clear r0 d0 d1 d2 hrw hrm hbq HE hbw hgw
        generalize Sort.grow (redrawn wr dq) osq = W5 at *
        go_wp2
        go_roundw
        case rel => exact ⟨k + 1, by omega, by go_num, N1.out, N2.out, hgq, hbQ⟩
        case measure => simp [intOf]; omega
    · obtain rfl : k = code.length := by omega
      have HG : Hid (Got w.heap.size wr (.slice (some ⟨gv, 0, none⟩) code.length cv) (loadF code)) := ⟨gv, cv, by unfold loadF; rw [partL_len], Nat.le_trans hb1.size hg1, hgw, hrw.out, by show Room _ _ ((loadF code).length * 3); unfold loadF; rw [partL_len]; exact hrm.out⟩
      have hbF : Below w.heap.size w wr := below_over hb1 hbw
      clear hrw hrm
      go_wp2
      go_ret
      exact ⟨_, rfl, ⟨HG.out, HLK.out⟩, hbF⟩
set_option maxRecDepth 100000 in
set_option maxHeartbeats 1000000 in
theorem specLoaded (g cap : Nat) (l : List Tx.Ins) (hl : l.length ≤ 1048576) (w : World) (hr : Row w g 0 l) :
    Calls Try.prog 18 #[.slice (some ⟨g, 0, none⟩) l.length cap] w fun e w' => ∃ x, e = .returned x ∧ Got w.heap.size w' x (ldA l) ∧ Below w.heap.size w w' := by
  have HR : Hid (Row w g 0 l) := hr
  clear hr
  go_enter Try.func18, Try.ntmps18
  go_wp2_with fail
  refine (specCodeOk g cap l hl w HR.out).mono ?_
  rintro e w1 ⟨rfl, hb1⟩
  cases hok : Lay.codeOk l
  · have HE : Hid (ldA l = []) := by show _ = _; simp [ldA, hok]
    clear hok
    go_wp2
    go_ret
    exact ⟨_, rfl, by rw [HE.out]; exact got_nil w1 _ hb1.size _, hb1.alloc hb1.size _⟩
  · have HE : Hid (ldA l = loadF l) := by show _ = _; simp [ldA, hok]
    go_wp2_with fail
    refine (l10Loaded_at g cap l hok w1 (HR.out.on hb1)).mono ?_
    rintro e w2 ⟨v, rfl, ⟨hg, _⟩, hb2⟩
    have hw2 : Below w.heap.size w w2 := below_over hb1 hb2
    have HG : Hid (Got w.heap.size w2 v (ldA l)) := by show Got _ _ _ _; rw [HE.out]; exact hg.base hb1.size
    clear hg hok hb1 hb2
    go_wp2
    go_ret
    exact ⟨_, rfl, HG.out, hw2⟩
set_option maxRecDepth 100000 in
set_option maxHeartbeats 2000000 in
theorem l10All2_at (g cap : Nat) (l : List Tx.Ins) (hok : Lay.codeOk l = true) (w : World) (hr : Row w g 0 l) :
    Calls Try.prog 41 #[.slice (some ⟨g, 0, none⟩) l.length cap] w fun e w' => ∃ x, e = .returned x ∧ Got w.heap.size w' x (allF (loadF l)) ∧ Below w.heap.size w w' := by
  have hl40 := (Lay.ok_len hok).2
  have HR : Hid (Row w g 0 l) := hr
  have HOK : Hid (Lay.codeOk l = true) := hok
  clear hr hok
  go_enter Try.func41, Try.ntmps41
  go_wp2_with fail
  refine (l10Loaded_at g cap l HOK.out w HR.out).mono ?_
  rintro e w1 ⟨v, rfl, ⟨hg, hkn⟩, hb1⟩
  have hld : (loadF l).length = l.length := by unfold loadF; rw [partL_len]
  have HGA : Hid (Got w.heap.size w1 v (loadF l)) := hg
  have HNO : Hid (Lay.codeOk (loadF l) = true) := partL_ok HOK.out hkn _ (Nat.le_refl _)
  clear hg hkn
  go_wp2
  go_loopg [3] 41 (fun n v wr => ∃ c : List Tx.Ins, Hid (Got w.heap.size wr v c) ∧ Hid (Lay.codeOk c = true) ∧ Hid (busyN c ≤ n) ∧ Hid (allF (loadF l) = allF c) ∧ Below w.heap.size w wr)
  case atStart => exact ⟨loadF l, HGA.out, HNO.out, by show _ ≤ _; have := busy_len (loadF l); omega, rfl, hb1⟩
  case round =>
    clear HGA HNO hb1 hld
    obtain ⟨c, hG, hok, hB, hF, hb⟩ := hrel
    obtain ⟨gc, cc, rfl, q1, q2, q3, q4⟩ := hG.out
    have HRc : Hid (Row wr gc 0 c) := q3
    have HMc : Hid (Room wr gc (c.length * 3)) := q4
    clear q3 q4 hG
    go_wp2_with fail
    refine (l10Folded_at gc cc c hok.out wr HRc.out).mono ?_
    rintro e w2 ⟨v2, rfl, hg2, hb2⟩
    have hw2 : Below w.heap.size w w2 := below_over hb hb2
    cases he : (foldsF c).2
    · have HG4 : Hid (Got w.heap.size w2 (.slice (some ⟨gc, 0, none⟩) c.length cc) (allF (loadF l))) := by
        show Got _ _ _ _
        rw [hF.out, allF_end he]
        exact ⟨gc, cc, rfl, q1, Nat.lt_of_lt_of_le q2 hb2.size, HRc.out.on hb2, HMc.out.on hb2⟩
      clear hg2 hb2 HRc HMc
      go_wp2
      go_ret
      exact ⟨_, rfl, HG4.out, hw2⟩
    · have hbz := folds_busy he
      have HF2 : Hid (allF (loadF l) = allF (foldsF c).1) := by show _ = _; rw [hF.out, allF_step he]
      have HN2 : Hid (Lay.codeOk (foldsF c).1 = true) := folds_ok hok.out
      have hgk : busyN (foldsF c).1 < gk := Nat.lt_of_lt_of_le hbz hB.out
      have HG3 : Hid (Got w.heap.size w2 v2 (foldsF c).1) := hg2.base hb.size
      clear he hF hok hB hg2 hb2 HRc HMc hb
      go_wp2
      go_roundg (busyN (foldsF c).1)
      case rel => exact ⟨(foldsF c).1, HG3.out, HN2.out, Nat.le_refl _, HF2.out, hw2⟩
      case measure => exact hgk
set_option maxRecDepth 100000 in
set_option maxHeartbeats 1000000 in
theorem specFoldedAll (g cap : Nat) (l : List Tx.Ins) (hl : l.length ≤ 1048576) (w : World) (hr : Row w g 0 l) :
    Calls Try.prog 21 #[.slice (some ⟨g, 0, none⟩) l.length cap] w fun e w' => ∃ x, e = .returned x ∧ Got w.heap.size w' x (falA l) ∧ Below w.heap.size w w' := by
  have HR : Hid (Row w g 0 l) := hr
  clear hr
  go_enter Try.func21, Try.ntmps21
  go_wp2_with fail
  refine (specCodeOk g cap l hl w HR.out).mono ?_
  rintro e w1 ⟨rfl, hb1⟩
  cases hok : Lay.codeOk l
  · have HE : Hid (falA l = []) := by
      show _ = _
      have : ldA l = [] := by simp [ldA, hok]
      unfold falA
      rw [this]
      rfl
    clear hok
    go_wp2
    go_ret
    exact ⟨_, rfl, by rw [HE.out]; exact got_nil w1 _ hb1.size _, hb1.alloc hb1.size _⟩
  · have HE : Hid (falA l = allF (loadF l)) := by
      show _ = _
      have : ldA l = loadF l := by simp [ldA, hok]
      unfold falA
      rw [this]
    go_wp2_with fail
    refine (l10All2_at g cap l hok w1 (HR.out.on hb1)).mono ?_
    rintro e w2 ⟨v, rfl, hg, hb2⟩
    have hw2 : Below w.heap.size w w2 := below_over hb1 hb2
    have HG : Hid (Got w.heap.size w2 v (falA l)) := by show Got _ _ _ _; rw [HE.out]; exact hg.base hb1.size
    clear hg hok hb1 hb2
    go_wp2
    go_ret
    exact ⟨_, rfl, HG.out, hw2⟩
end Pg
end Go.Proofs.Ythabenjodhjgiaa

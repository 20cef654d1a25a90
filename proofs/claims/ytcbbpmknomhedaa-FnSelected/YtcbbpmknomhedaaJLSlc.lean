/- The law FnSelected answers true at every row of bytes. -/
import Derived.Test.YtcbbpmknomhedaaJSr0
namespace Go.Proofs.Ytcbbpmknomhedaa
namespace Pg
open Go.ChangeShapes Go.WideShapes Go.ChangeAt Go.RowKit St

set_option maxRecDepth 100000 in
set_option maxHeartbeats 4000000 in
theorem sel_small (w : World) (a0 : Option Addr) (len cap : Nat) (hB : Cu.Bytes w.heap.size w a0 len) :
    Calls Try.prog 3 #[.slice a0 len cap] w fun e w' => e = .returned (.bool true) ∧ Below w.heap.size w w' := by
  have hl := hB.1
  have hnb : decide ((4096 : Int) < (len : Int)) = false := by simp; omega
  have HB : Hid (Cu.Bytes w.heap.size w a0 len) := hB
  clear hB
  go_enter Try.func3, Try.ntmps3
  go_wp2_with fail
  refine (Cu.big_at _ _ _ _).mono ?_
  rintro e w1 ⟨rfl, rfl⟩
  go_wp2_with fail
  refine (drawSelected_at w.heap.size _ _ _ _ HB.out (Nat.le_refl _)).mono ?_
  rintro e w1 ⟨gp, cp, p, c, nm, rfl, hp⟩
  have hpl := hp.len
  have HPS : Hid (SmallP p) := hp.small
  have hb1 : Below w1.heap.size w1 (w1.alloc (.cells #[.slice (some ⟨gp, 0, none⟩) p.length cp] 26)) := (Below.refl _ _).alloc (Nat.le_refl _) _
  have H1 : SR w w1.heap.size gp cp p [] (w1.alloc (.cells #[.slice (some ⟨gp, 0, none⟩) p.length cp] 26)) := ⟨Cells.new w1 _ rfl _ _, SK.weak (SK.on hp.sk (Keep.of hb1)) (Nat.zero_le _), fun _ h => (List.not_mem_nil h).elim, below_over hp.below hb1⟩
  obtain ⟨sv, hsv⟩ : ∃ sv, sv = selA p c nm := ⟨_, rfl⟩
  have HSV : Hid (sv = selA p c nm) := hsv
  obtain ⟨lt, hlt⟩ : ∃ lt, lt = targA p c nm := ⟨_, rfl⟩
  have HLT : Hid (lt = targA p c nm) := hlt
  have hltl : lt.length ≤ 24 := by rw [hlt]; exact targA_len p c nm
  obtain ⟨ld, hld⟩ : ∃ ld, ld = downA p c := ⟨_, rfl⟩
  have HLD : Hid (ld = downA p c) := hld
  have hldl : ld.length ≤ 24 := by rw [hld]; exact downA_len p c
  obtain ⟨lu, hlu⟩ : ∃ lu, lu = upA p c := ⟨_, rfl⟩
  have HLU : Hid (lu = upA p c) := hlu
  have hlul : lu.length ≤ 24 := by rw [hlu]; exact upA_len p c
  clear hnb hp hb1 hsv hlt hld hlu HB hl
  go_wp2_with fail
  generalize w1.alloc (.cells #[.slice (some ⟨gp, 0, none⟩) p.length cp] 26) = u1 at *
  generalize w1.heap.size = pb at *
  refine (H1.call (implSelected 0 p _ cp c nm HPS.out u1 H1.kp)).mono ?_
  rw [← HSV.out]
  rintro e u2 ⟨rfl, H2, x2⟩
  clear H1
  go_wp2_with fail
  refine (H2.lst (sTargets p _ cp c nm HPS.out u2 H2.kp)).mono ?_
  rw [← HLT.out]
  rintro e u3 ⟨g1, c1, rfl, H3, x3⟩
  clear H2 x2
  go_wp2_with fail
  refine (H3.call (specSelected 0 p _ cp c nm HPS.out u3 H3.kp)).mono ?_
  rw [← HSV.out]
  rintro e u4 ⟨rfl, H4, x4⟩
  have hns : (sv != sv) = false := by simp
  clear H3 x3
  go_wp2_with fail
  refine (H4.lst (sTargets' p _ cp c nm HPS.out u4 H4.kp)).mono ?_
  rw [← HLT.out]
  rintro e u5 ⟨g2, c2, rfl, H5, x5⟩
  clear H4 x4
  go_wp2_with fail
  refine (H5.call (likeSame g1 g2 c1 c2 lt (by omega) u5 (H5.rw (g1, lt) (by simp)) (H5.rw (g2, lt) (by simp)))).mono ?_
  rintro e u6 ⟨rfl, H6, x6⟩
  clear H5 x5
  go_wp2_with fail
  refine (H6.call (risesYes g1 c1 lt (by omega) (by rw [HLT.out]; exact targ_rises p c nm) u6 (H6.rw (g1, lt) (by simp)))).mono ?_
  rintro e u7 ⟨rfl, H7, x7⟩
  clear H6 x6 hns
  go_wp2_with fail
  refine (H7.lst (sBelow p _ cp c HPS.out u7 H7.kp)).mono ?_
  rw [← HLD.out]
  rintro e u8 ⟨g3, c3, rfl, H8, x8⟩
  clear H7 x7 x8
  go_wp2
  go_loopw [9, 10] (fun i _ wr => ∃ k : Nat, i = .int .i64 (k : Int) ∧ k ≤ ld.length ∧ SR w pb gp cp p [(g3, ld), (g2, lt), (g1, lt)] wr) (fun i _ _ => ld.length + 1 - (intOf i).toNat)
  case atStart => exact ⟨0, rfl, Nat.zero_le _, H8⟩
  case round =>
    obtain ⟨k, rfl, hk, HI⟩ := hrel
    have xp := HI.x
    by_cases hlt : k < ld.length
    · have hki : (k : Int) < (ld.length : Int) := by omega
      have hk0 : (0 : Int) ≤ (k : Int) := by omega
      have c0 := (HI.rw (g3, ld) (by simp)) k _ (List.getElem?_eq_getElem hlt)
      simp only [Nat.zero_add] at c0
      have HMI : Hid (ld[k] ∈ downA p c) := by show _ ∈ _; rw [← HLD.out]; exact List.getElem_mem hlt
      generalize ld[k] = y at *
      obtain ⟨x, hx⟩ : ∃ x, x = selA p y nm := ⟨_, rfl⟩
      have HX : Hid (x = selA p y nm) := hx
      have e0 := cell_regrown xp
      have e1 := cell_regrown c0
      have cS : ∀ d os, Calls Try.prog 6 #[.agg #[.slice (some ⟨gp, 0, none⟩) p.length cp], .int .i64 y, .int .i64 nm] (Sort.grow (redrawn wr d) os) fun e w'' => e = .returned (.int .i64 x) ∧ ∃ p : Regrown, w'' = Sort.grow (redrawn wr p.d) p.os := by
        intro d os
        rw [HX.out]
        exact Calls.regrown_of (implSelected 0 p _ cp y nm HPS.out _ (SK.on HI.kp (Keep.of (below_regrown wr d os))))
      clear hx H8
      go_wp2_with fail
      refine wp_region_quiet_below (by kernel_rfl) (by kernel_rfl) ?_
      repeat (go_big_quiet_step ((go_at_call 6; exact cS _ _)))
      refine wpQuiet_nil ?_
      intro _ hw'
      obtain ⟨⟨dq, osq⟩, hw''⟩ := hw'
      subst hw''
      have H9 : SR w pb gp cp p [(g3, ld), (g2, lt), (g1, lt)] (Sort.grow (redrawn wr dq) osq) := HI.on (below_regrown wr dq osq)
      clear HI xp c0 e0 e1 cS
      generalize Sort.grow (redrawn wr dq) osq = u9 at *
      by_cases hx0 : x < 0
      · have hx0' : ¬ 0 ≤ x := by omega
        have hs0 : ¬ 0 ≤ sv := by
          intro h
          have h1 : ¬ selA p c nm < 0 := by rw [← HSV.out]; omega
          have := sel_below HMI.out h1
          rw [← HX.out] at this
          exact this hx0
        go_wp2
        go_roundw
        case rel => exact ⟨k + 1, by go_num, by omega, H9⟩
        case measure => simp [intOf]; omega
      · have hx0' : 0 ≤ x := by omega
        have HT : Hid (decide (x ∈ lt) = true) := by
          show _ = _
          rw [HLT.out, HX.out]
          exact decide_eq_true (sel_targ HMI.out (by rw [← HX.out]; exact hx0))
        go_wp2_with fail
        refine (H9.call (hasAt g1 c1 lt x (by omega) u9 (H9.rw (g1, lt) (by simp)))).mono ?_
        rw [HT.out]
        rintro e u10 ⟨rfl, H10, _⟩
        clear H9
        by_cases hs0 : 0 ≤ sv
        · go_wp2
          go_roundw
          case rel => exact ⟨k + 1, by go_num, by omega, H10⟩
          case measure => simp [intOf]; omega
        · go_wp2
          go_roundw
          case rel => exact ⟨k + 1, by go_num, by omega, H10⟩
          case measure => simp [intOf]; omega
    · have hki : ¬ (k : Int) < (ld.length : Int) := by omega
      clear H8
      by_cases hs0 : sv < 0
      · go_wp2
        go_ret
        exact ⟨rfl, HI.bl⟩
      · have hsa : Hid (0 ≤ selA p c nm) := by show 0 ≤ _; rw [← HSV.out]; omega
        go_wp2_with fail
        refine (methYes p _ cp sv nm HPS.out (by rw [HSV.out]; exact sel_own (Int.not_lt.2 hsa.out)) wr HI.kp).mono ?_
        rintro e u9 ⟨v1, x1, n1, y1, v3, x2, n2, y2, rfl, hb9⟩
        have H10 : SR w pb gp cp p [(g3, ld), (g2, lt), (g1, lt)] (u9.alloc (.cells #[.int .i64 v1, .slice x1 n1 y1, .int .i64 v3, .slice x2 n2 y2] 38)) := (HI.on hb9).on ((Below.refl _ _).alloc (Nat.le_refl _) _)
        clear hb9 HI xp
        have x10 := H10.x
        go_wp2_with fail
        generalize u9.alloc (.cells #[.int .i64 v1, .slice x1 n1 y1, .int .i64 v3, .slice x2 n2 y2] 38) = u10 at *
        refine (H10.lst (sAbove p _ cp c HPS.out u10 H10.kp)).mono ?_
        rw [← HLU.out]
        rintro e u11 ⟨g4, c4, rfl, H11, x11⟩
        clear H10 x10 x11
        go_wp2
        go_loopw [14, 15, 16] (fun i _ _ wr => ∃ k : Nat, i = .int .i64 (k : Int) ∧ k ≤ lu.length ∧ Hid (sv ∉ lu.take k) ∧ SR w pb gp cp p [(g4, lu), (g3, ld), (g2, lt), (g1, lt)] wr) (fun i _ _ _ => lu.length + 1 - (intOf i).toNat)
        case atStart => exact ⟨0, rfl, Nat.zero_le _, fun h => by simp at h, H11⟩
        case round =>
          obtain ⟨m, rfl, hm, hno, HI⟩ := hrel
          have xp := HI.x
          by_cases hgo : ∃ y, lu[m]? = some y ∧ y ≠ sv
          · obtain ⟨y, hy, hne⟩ := hgo
            have hmi : (m : Int) < (lu.length : Int) := by have := (List.getElem?_eq_some_iff.1 hy).1; omega
            have hm0 : (0 : Int) ≤ (m : Int) := by omega
            have c0 := (HI.rw (g4, lu) (by simp)) m _ hy
            simp only [Nat.zero_add] at c0
            have hyb : (y != sv) = true := by simpa using hne
            have HMN : Hid (methF p y nm = none) := by
              show _ = _
              have h1 := hy
              have h2 := hno.out
              have h3 := hne
              rw [HLU.out] at h1 h2
              rw [HSV.out] at h2 h3
              exact sel_first (Int.not_lt.2 hsa.out) h1 h2 h3
            have HNO : Hid (sv ∉ lu.take (m + 1)) := by
              intro h
              rw [List.take_add_one, hy] at h
              rcases List.mem_append.1 h with h | h
              · exact hno.out h
              · simp at h; exact hne h.symm
            have HY : Hid (lu[m]? = some y) := hy
            clear H11 hy hne hno
            go_wp2_with fail
            go_cut [16] from 97 to 121 (fun b u => b = .bool false ∧ SR w pb gp cp p [(g4, lu), (g3, ld), (g2, lt), (g1, lt)] u)
            case first =>
              rename_i J KK hJ hKK
              have hbA : Below wr.heap.size wr (wr.alloc (.cells #[.int .i64 0, .slice none 0 0, .int .i64 0, .slice none 0 0] 38)) := (Below.refl _ _).alloc (Nat.le_refl _) _
              have xpA := (HI.on hbA).x
              have c0A := ((HI.on hbA).rw (g4, lu) (by simp)) m _ HY.out
              simp only [Nat.zero_add] at c0A
              clear hbA
              go_region_with (go_at_call 14; refine (methNo p _ cp y nm HPS.out HMN.out _ ?hx).mono ?_; (case hx => first | exact (HI.on (Below.refl _ _).drew).kp | exact (HI.on ((Below.refl _ _).alloc (Nat.le_refl _) _).drew).kp); rintro e w1 ⟨rfl, hb1⟩; first | (have BX := Cells.on (Cells.newD wr [.int .i64 0, .slice none 0 0, .int .i64 0, .slice none 0 0] 38) hb1; obtain ⟨b0, e0⟩ := BX.g0; obtain ⟨b1, e1⟩ := BX.g1; obtain ⟨b2, e2⟩ := BX.g2; obtain ⟨b3, e3⟩ := BX.g3) | skip)
              all_goals
                first
                | (have hF : Below wr.heap.size wr (w1.alloc (.cells #[.int .i64 0, .slice none 0 0, .int .i64 0, .slice none 0 0] 38)) := (below_over (Below.refl _ _).drew hb1).alloc (below_over (Below.refl _ _).drew hb1).size _
                   have HF := HI.on hF
                   try go_simp
                   first
                   | refine hKK _ _ (Met.intro (hJ _ _ ?_))
                   | refine Met.intro (hJ _ _ ?_)
                   (repeat apply Exists.intro)
                   exact ⟨⟨rfl, HF⟩, rfl⟩)
                | (have hb1' : Below wr.heap.size wr w1 := below_over ((Below.refl _ _).alloc (Nat.le_refl _) _).drew hb1
                   have HF := HI.on ((((hb1'.setCell (p := ⟨wr.heap.size, 0, none⟩) (by simp) (.int .i64 0)).setCell (p := ⟨wr.heap.size, 1, none⟩) (by simp) (.slice none 0 0)).setCell (p := ⟨wr.heap.size, 2, none⟩) (by simp) (.int .i64 0)).setCell (p := ⟨wr.heap.size, 3, none⟩) (by simp) (.slice none 0 0))
                   try go_simp
                   first
                   | refine hKK _ _ (Met.intro (hJ _ _ ?_))
                   | refine Met.intro (hJ _ _ ?_)
                   (repeat apply Exists.intro)
                   exact ⟨⟨rfl, HF⟩, rfl⟩)
            case rest =>
              obtain ⟨rfl, H12⟩ := hcut
              clear HI xp c0
              go_wp2
              go_roundw
              case rel => exact ⟨m + 1, by go_num, by omega, HNO.out, H12⟩
              case measure => simp [intOf]; omega
          · have HEND : Hid (sv ∈ lu ∧ sv ∈ lt) := by
              show _ ∧ _
              rw [HLU.out, HLT.out, HSV.out]
              exact ⟨sel_up (Int.not_lt.2 hsa.out), sel_self (Int.not_lt.2 hsa.out)⟩
            have hd1 : decide (sv ∈ lu) = true := decide_eq_true HEND.out.1
            have hd2 : decide (sv ∈ lt) = true := decide_eq_true HEND.out.2
            by_cases hml : m < lu.length
            · have hmi : (m : Int) < (lu.length : Int) := by omega
              have hm0 : (0 : Int) ≤ (m : Int) := by omega
              have hsm : lu[m]? = some sv := by
                rw [List.getElem?_eq_getElem hml]
                refine congrArg some ?_
                by_cases h : lu[m] = sv
                · exact h
                · exact absurd ⟨lu[m], List.getElem?_eq_getElem hml, h⟩ hgo
              have c0 := (HI.rw (g4, lu) (by simp)) m _ hsm
              simp only [Nat.zero_add] at c0
              have hyb : (sv != sv) = false := by simp
              clear H11 hgo hsm hno HEND
              go_wp2_with fail
              refine (HI.call (hasAt g4 c4 lu sv (by omega) wr (HI.rw (g4, lu) (by simp)))).mono ?_
              rw [hd1]
              rintro e u12 ⟨rfl, H12, _⟩
              go_wp2_with fail
              refine (H12.call (hasAt g1 c1 lt sv (by omega) u12 (H12.rw (g1, lt) (by simp)))).mono ?_
              rw [hd2]
              rintro e u13 ⟨rfl, H13, _⟩
              go_wp2
              go_ret
              exact ⟨rfl, H13.bl⟩
            · have hmi : ¬ (m : Int) < (lu.length : Int) := by omega
              clear H11 hgo hno HEND
              go_wp2_with fail
              refine (HI.call (hasAt g4 c4 lu sv (by omega) wr (HI.rw (g4, lu) (by simp)))).mono ?_
              rw [hd1]
              rintro e u12 ⟨rfl, H12, _⟩
              go_wp2_with fail
              refine (H12.call (hasAt g1 c1 lt sv (by omega) u12 (H12.rw (g1, lt) (by simp)))).mono ?_
              rw [hd2]
              rintro e u13 ⟨rfl, H13, _⟩
              go_wp2
              go_ret
              exact ⟨rfl, H13.bl⟩
end Pg
end Go.Proofs.Ytcbbpmknomhedaa

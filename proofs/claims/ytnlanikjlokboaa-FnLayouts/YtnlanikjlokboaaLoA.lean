/- Contracts of the two sides' tests whether a layout is right. -/
import Derived.Test.YtnlanikjlokboaaLo8
import Derived.BigQuiet
namespace Go.Proofs.Ytnlanikjlokboaa
namespace St
open Go.ChangeShapes Go.WideShapes Go.ChangeAt Go.RowKit

theorem l1InB (n a b : Int) (w : World) : Calls Try.prog 40 #[.int .i64 n, .int .i64 a, .int .i64 b] w fun e w' => e = .returned (.bool (decide (a ≤ n) && decide (n ≤ b))) ∧ Below w.heap.size w w' :=
  (l1In n a b w).mono fun _ _ ⟨h, e⟩ => ⟨h, e ▸ Below.refl _ _⟩
theorem l3JumpB (op : Int) (w : World) : Calls Try.prog 39 #[.int .i64 op] w fun e w' => e = .returned (.bool (Lay.jumpB op)) ∧ Below w.heap.size w w' :=
  (l3Jump op w).mono fun _ _ ⟨h, e⟩ => ⟨h, e ▸ Below.refl _ _⟩
theorem off_in (d : Int) : (decide (-16 ≤ d) && decide (d ≤ 15)) = !(Lay.offB d) := by
  unfold Lay.offB
  rw [Bool.eq_iff_iff]; simp

set_option maxRecDepth 100000 in
set_option maxHeartbeats 1000000 in
theorem implLayoutOk (g cap g' cap' : Nat) (l : List Tx.Ins) (v : List Int) (hl : l.length ≤ 1048576) (w : World) (hr : Row w g 0 l) (hi : IRow w g' 0 v) :
    Calls Try.prog 9 #[.slice (some ⟨g, 0, none⟩) l.length cap, .slice (some ⟨g', 0, none⟩) v.length cap'] w fun e w' => e = .returned (.bool (Lay.codeOk l && Lay.rightB l v)) ∧ Below w.heap.size w w' := by
  have HR : Hid (Row w g 0 l) := hr
  have HI : Hid (IRow w g' 0 v) := hi
  clear hr hi
  cases hok : Lay.codeOk l
  · go_enter Try.func9, Try.ntmps9
    go_wp2_with fail
    refine (implCodeOk g cap l hl _ HR.out).mono ?_
    rw [hok]
    rintro e w1 ⟨rfl, hb1⟩
    go_wp2
    go_ret
    exact ⟨rfl, hb1⟩
  · rw [Bool.true_and]
    cases hwd : Lay.wideB l v
    · have HN : Hid (Lay.rightB l v = false) := right_wide hwd
      go_enter Try.func9, Try.ntmps9
      go_wp2_with fail
      refine (implCodeOk g cap l hl _ HR.out).mono ?_
      rw [hok]
      rintro e w1 ⟨rfl, hb1⟩
      go_wp2_with fail
      refine (isLayout g cap g' cap' l v hl _ (HR.out.on hb1) (HI.out.on hb1)).mono ?_
      rw [hwd]
      rintro e w2 ⟨rfl, hb2⟩
      have hw2 : Below w.heap.size w w2 := below_over hb1 hb2
      go_wp2
      go_ret
      exact ⟨retB HN.out.symm, hw2⟩
    · have HWB : Hid (Lay.wideB l v = true) := hwd
      have HOK : Hid (Lay.codeOk l = true) := hok
      have HWD : Hid (Lay.Wide l v) := (Lay.wide_iff l v).1 hwd
      have h40 := (Lay.ok_len hok).2
      have hlen := HWD.out.1
      rw [hlen]
      clear hlen
      go_enter Try.func9, Try.ntmps9
      go_wp2_with fail
      refine (implCodeOk g cap l hl _ HR.out).mono ?_
      rw [hok]
      rintro e w1 ⟨rfl, hb1⟩
      go_wp2_with fail
      have CL := isLayout g cap g' cap' l v hl w1 (HR.out.on hb1) (HI.out.on hb1)
      rw [HWD.out.1] at CL
      refine CL.mono ?_
      rw [hwd]
      clear CL
      rintro e w2 ⟨rfl, hb2⟩
      have hw2 : Below w.heap.size w w2 := below_over hb1 hb2
      clear hb1 hb2
      go_wp2_with fail
      refine (placesBy g cap g' cap' l v h40 HWD.out.1 HWD.out.bit _ (HR.out.on hw2) (HI.out.on hw2)).mono ?_
      rw [Lay.places_len]
      rintro e w3 ⟨rfl, hi3, _, _, hb3⟩
      have hw3 : Below w.heap.size w w3 := below_over hw2 hb3
      have HP3 : Hid (IRow w3 w2.heap.size 0 (Lay.places l v)) := hi3
      have HR3 : Hid (Row w3 g 0 l) := HR.out.on hw3
      have HI3 : Hid (IRow w3 g' 0 v) := HI.out.on hw3
      clear hi3 hb3 hw2
      generalize w2.heap.size = gp at *
      go_wp2_with fail
      go_loopw [21] (fun i wr => ∃ k : Nat, k ≤ l.length ∧ i = .int .i64 k ∧ Hid (∀ j, j < k → Lay.far l v j = false) ∧ Below w3.heap.size w3 wr) (fun i _ => l.length - (intOf i).toNat)
      case atStart => exact ⟨0, Nat.zero_le _, rfl, fun j h => absurd h (Nat.not_lt_zero _), Below.refl _ _⟩
      case round =>
        obtain ⟨k, hk, rfl, hno, hbq⟩ := hrel
        by_cases hlt : k < l.length
        · have hki : (k : Int) < (l.length : Int) := by omega
          go_wp2_with fail
          refine (tooFar g cap g' cap' gp _ l v HOK.out HWD.out.1 HWD.out.bit k hlt _ (HR3.out.on hbq) (HI3.out.on hbq) (HP3.out.on hbq)).mono ?_
          rintro e w4 ⟨rfl, hb4⟩
          have hbq2 : Below w3.heap.size w3 w4 := below_over hbq hb4
          clear hbq hb4
          cases hf : Lay.far l v k
          · have HNO : Hid (∀ j, j < k + 1 → Lay.far l v j = false) := by
              show ∀ j, _ → _
              intro j hj
              by_cases e : j = k
              · rw [e]; exact hf
              · exact hno.out j (by omega)
            go_wp2
            go_roundw
            case rel => exact ⟨k + 1, by omega, by go_num, HNO.out, hbq2⟩
            case measure => simp [intOf]; omega
          · have HN : Hid (Lay.rightB l v = false) := right_no hlt hf
            go_wp2
            go_ret
            exact ⟨retB HN.out.symm, below_over hw3 hbq2⟩
        · have HN : Hid (Lay.rightB l v = true) := right_yes HWB.out (fun j hj => hno.out j (by omega))
          go_wp2
          go_ret
          exact ⟨retB HN.out.symm, below_over hw3 hbq⟩
set_option maxRecDepth 100000 in
set_option maxHeartbeats 2000000 in
theorem specLayoutOk (g cap g' cap' : Nat) (l : List Tx.Ins) (v : List Int) (hl : l.length ≤ 1048576) (w : World) (hr : Row w g 0 l) (hi : IRow w g' 0 v) :
    Calls Try.prog 11 #[.slice (some ⟨g, 0, none⟩) l.length cap, .slice (some ⟨g', 0, none⟩) v.length cap'] w fun e w' => e = .returned (.bool (Lay.codeOk l && Lay.rightB l v)) ∧ Below w.heap.size w w' := by
  have HR : Hid (Row w g 0 l) := hr
  have HI : Hid (IRow w g' 0 v) := hi
  clear hr hi
  cases hq : (Lay.codeOk l && Lay.wideB l v)
  · have HN : Hid ((Lay.codeOk l && Lay.rightB l v) = false) := by
      show _ = _
      cases h1 : Lay.codeOk l
      · rfl
      · rw [h1, Bool.true_and] at hq
        rw [Bool.true_and]
        exact right_wide hq
    go_enter Try.func11, Try.ntmps11
    go_wp2_with fail
    refine (l3Wide g cap g' cap' l v hl _ HR.out HI.out).mono ?_
    rw [hq]
    rintro e w1 ⟨rfl, hb1⟩
    clear hq
    go_wp2
    go_ret
    exact ⟨retB HN.out.symm, hb1⟩
  · have hq2 : Lay.codeOk l = true ∧ Lay.wideB l v = true := by simpa using hq
    have HOK : Hid (Lay.codeOk l = true) := hq2.1
    have HWB : Hid (Lay.wideB l v = true) := hq2.2
    have HWD : Hid (Lay.Wide l v) := (Lay.wide_iff l v).1 hq2.2
    have h40 := (Lay.ok_len hq2.1).2
    have HQ : Hid ((Lay.codeOk l && Lay.wideB l v) = true) := hq
    have hlen := HWD.out.1
    have CL := l3Wide g cap g' cap' l v hl w HR.out HI.out
    rw [hlen, HQ.out] at CL
    rw [hlen, HOK.out, Bool.true_and]
    have HCL : Hid (Calls Try.prog 37 #[.slice (some ⟨g, 0, none⟩) l.length cap, .slice (some ⟨g', 0, none⟩) l.length cap'] w fun e w' => e = .returned (.bool true) ∧ Below w.heap.size w w') := CL
    clear hq hq2 hlen CL
    go_enter Try.func11, Try.ntmps11
    go_wp2_with fail
    refine HCL.out.mono ?_
    rintro e w1 ⟨rfl, hb1⟩
    clear HCL
    go_wp2_with fail
    refine (l3Places g cap g' cap' l v h40 HWD.out _ (HR.out.on hb1) (HI.out.on hb1)).mono ?_
    rintro e w2 ⟨x, rfl, ⟨gp, cp, rfl, hgp1, hgp2, hp2, _⟩, hb2⟩
    rw [Lay.places_len]
    have hw2 : Below w.heap.size w w2 := below_over hb1 hb2
    have HP2 : Hid (IRow w2 gp 0 (Lay.places l v)) := hp2
    have HR2 : Hid (Row w2 g 0 l) := HR.out.on hw2
    have HI2 : Hid (IRow w2 g' 0 v) := HI.out.on hw2
    have HPB : Hid (∀ j, 0 ≤ Lay.pl l v j ∧ Lay.pl l v j ≤ 6 * j) := Lay.pl_bd HWD.out.bit
    clear hp2 hb2 hb1 hgp1 hgp2
    go_wp2_with fail
    go_loopw [6] (fun i wr => ∃ k : Nat, k ≤ l.length ∧ i = .int .i64 k ∧ Hid (∀ j, j < k → Lay.far l v j = false) ∧ Below w2.heap.size w2 wr) (fun i _ => l.length - (intOf i).toNat)
    case atStart => exact ⟨0, Nat.zero_le _, rfl, fun j h => absurd h (Nat.not_lt_zero _), Below.refl _ _⟩
    case round =>
      obtain ⟨k, hk, rfl, hno, hbq⟩ := hrel
      by_cases hlt : k < l.length
      · have hlv : k < v.length := by rw [HWD.out.1]; exact hlt
        have HX0 : Lay.ins l k = l[k] := ins_at hlt
        have HN0 : Lay.wd v k = v[k] := wd_at hlv
        have hb01 := HWD.out.bit k
        rw [HN0] at hb01
        have HX : Hid (Lay.ins l k = l[k]) := HX0
        have HN : Hid (Lay.wd v k = v[k]) := HN0
        have HG : Hid (Lay.jumpB l[k].1 = true → 0 ≤ l[k].2.1 ∧ l[k].2.1 < (l.length : Int)) := Lay.ok_jump HOK.out (List.getElem?_eq_getElem hlt)
        obtain ⟨d0, d1, d2⟩ := HR2.out.on hbq k _ (List.getElem?_eq_getElem hlt)
        have i0 := HI2.out.on hbq k _ (List.getElem?_eq_getElem hlv)
        have HPQ : Hid (IRow wr gp 0 (Lay.places l v)) := HP2.out.on hbq
        clear HX0 HN0
        generalize l[k] = x at *
        generalize v[k] = n at *
        clear hlv
        obtain ⟨op, a, b⟩ := x
        simp only [Nat.zero_add] at d0 d1 d2 i0
        have hki : (k : Int) < (l.length : Int) := by omega
        have hki0 : (0 : Int) ≤ (k : Int) := by omega
        have hki1 : (k : Int) < (l.length : Int) + 1 := by omega
        clear d2
        have e0 := cell_regrown d0
        have e1 := cell_regrown d1
        have e2 := cell_regrown i0
        cases hj : Lay.jumpB op
        · have HF : Hid (Lay.far l v k = false) := far_no HX.out hj
          have cJ : ∀ d os, Calls Try.prog 39 #[.int .i64 op] (Sort.grow (redrawn wr d) os) fun e w'' => e = .returned (.bool false) ∧ ∃ p : Regrown, w'' = Sort.grow (redrawn wr p.d) p.os := by
            intro d os
            have h := l3JumpB op (Sort.grow (redrawn wr d) os)
            rw [hj] at h
            exact Calls.regrown_of h
          go_wp2_with fail
          refine wp_region_quiet_below (by kernel_rfl) (by kernel_rfl) ?_
          repeat (go_big_quiet_step ((go_at_call 39; exact cJ _ _)))
          refine wpQuiet_nil ?_
          intro _ hw'
          obtain ⟨⟨dq, osq⟩, hw''⟩ := hw'
          subst hw''
          clear cJ e0 e1 e2
          have hbq2 : Below w2.heap.size w2 (Sort.grow (redrawn wr dq) osq) := below_over hbq (below_regrown wr dq osq)
          clear hbq d0 d1 i0 HPQ
          generalize Sort.grow (redrawn wr dq) osq = w4 at *
          have HNO : Hid (∀ j, j < k + 1 → Lay.far l v j = false) := by
            show ∀ j, _ → _
            intro j hj
            by_cases e : j = k
            · rw [e]; exact HF.out
            · exact hno.out j (by omega)
          go_wp2
          go_roundw
          case rel => exact ⟨k + 1, by omega, by go_num, HNO.out, hbq2⟩
          case measure => simp [intOf]; omega
        · obtain ⟨ha0, ha1⟩ := HG.out hj
          have ha0' : 0 ≤ a := ha0
          have ha1' : a < (l.length : Int) := ha1
          by_cases hn0 : n = 0
          · subst hn0
            obtain ⟨t, ht⟩ : ∃ t : Nat, a = (t : Int) := ⟨a.toNat, by omega⟩
            have HF0 : Hid (Lay.far l v k = (Lay.jumpB op && decide ((0 : Int) = 0) && Lay.offB (Lay.pl l v t - Lay.pl l v k))) := far_eq HX.out HN.out ht
            subst ht
            have htl : t < l.length := by omega
            have q0 := HPQ.out k _ (Lay.places_at (v := v) (Nat.le_of_lt hlt))
            have q1 := HPQ.out t _ (Lay.places_at (v := v) (Nat.le_of_lt htl))
            have hpk := HPB.out k
            have hpt := HPB.out t
            simp only [Nat.zero_add] at q0 q1
            generalize hpkk : Lay.pl l v k = pk at *
            generalize hptt : Lay.pl l v t = pt at *
            clear hpkk hptt
            have ht1 : (0 : Int) ≤ (t : Int) := by omega
            have ht2 : (t : Int) < (l.length : Int) + 1 := by omega
            have hws : IntKind.i64.wrap (pt - pk) = pt - pk := by simp [IntKind.wrap, IntKind.signed, IntKind.bits]; omega
            have HF2 : Hid (Lay.far l v k = Lay.offB (pt - pk)) := by
              show Lay.far l v k = _
              rw [HF0.out, hj]; simp
            clear HF0 hpk hpt ha0 ha1 ha0' ha1'
            have e3 := cell_regrown q0
            have e4 := cell_regrown q1
            cases hf : Lay.offB (pt - pk)
            · have HF : Hid (Lay.far l v k = false) := HF2.out.trans hf
              have cL : ∀ d os, Calls Try.prog 40 #[.int .i64 (pt - pk), .int .i64 (-16), .int .i64 15] (Sort.grow (redrawn wr d) os) fun e w'' => e = .returned (.bool true) ∧ ∃ p : Regrown, w'' = Sort.grow (redrawn wr p.d) p.os := by
                intro d os
                have h := l1InB (pt - pk) (-16) 15 (Sort.grow (redrawn wr d) os)
                rw [off_in, hf] at h
                exact Calls.regrown_of h
              have cJ : ∀ d os, Calls Try.prog 39 #[.int .i64 op] (Sort.grow (redrawn wr d) os) fun e w'' => e = .returned (.bool true) ∧ ∃ p : Regrown, w'' = Sort.grow (redrawn wr p.d) p.os := by
                intro d os
                have h := l3JumpB op (Sort.grow (redrawn wr d) os)
                rw [hj] at h
                exact Calls.regrown_of h
              clear hf HF2
              go_wp2_with fail
              refine wp_region_quiet_below (by kernel_rfl) (by kernel_rfl) ?_
              repeat (go_big_quiet_step (first | (go_at_call 39; exact cJ _ _) | (go_at_call 40; exact cL _ _)))
              refine wpQuiet_nil ?_
              intro _ hw'
              obtain ⟨⟨dq, osq⟩, hw''⟩ := hw'
              subst hw''
              clear cJ cL e0 e1 e2 e3 e4 q0 q1 hws
              have hbq2 : Below w2.heap.size w2 (Sort.grow (redrawn wr dq) osq) := below_over hbq (below_regrown wr dq osq)
              clear hbq d0 d1 i0 HPQ
              generalize Sort.grow (redrawn wr dq) osq = w4 at *
              have HNO : Hid (∀ j, j < k + 1 → Lay.far l v j = false) := by
                show ∀ j, _ → _
                intro j hj
                by_cases e : j = k
                · rw [e]; exact HF.out
                · exact hno.out j (by omega)
              go_wp2
              go_roundw
              case rel => exact ⟨k + 1, by omega, by go_num, HNO.out, hbq2⟩
              case measure => simp [intOf]; omega
            · have HF : Hid (Lay.far l v k = true) := HF2.out.trans hf
              have cL : ∀ d os, Calls Try.prog 40 #[.int .i64 (pt - pk), .int .i64 (-16), .int .i64 15] (Sort.grow (redrawn wr d) os) fun e w'' => e = .returned (.bool false) ∧ ∃ p : Regrown, w'' = Sort.grow (redrawn wr p.d) p.os := by
                intro d os
                have h := l1InB (pt - pk) (-16) 15 (Sort.grow (redrawn wr d) os)
                rw [off_in, hf] at h
                exact Calls.regrown_of h
              have cJ : ∀ d os, Calls Try.prog 39 #[.int .i64 op] (Sort.grow (redrawn wr d) os) fun e w'' => e = .returned (.bool true) ∧ ∃ p : Regrown, w'' = Sort.grow (redrawn wr p.d) p.os := by
                intro d os
                have h := l3JumpB op (Sort.grow (redrawn wr d) os)
                rw [hj] at h
                exact Calls.regrown_of h
              clear hf HF2
              go_wp2_with fail
              refine wp_region_quiet_below (by kernel_rfl) (by kernel_rfl) ?_
              repeat (go_big_quiet_step (first | (go_at_call 39; exact cJ _ _) | (go_at_call 40; exact cL _ _)))
              refine wpQuiet_nil ?_
              intro _ hw'
              obtain ⟨⟨dq, osq⟩, hw''⟩ := hw'
              subst hw''
              clear cJ cL e0 e1 e2 e3 e4 q0 q1 hws
              have hbq2 : Below w2.heap.size w2 (Sort.grow (redrawn wr dq) osq) := below_over hbq (below_regrown wr dq osq)
              clear hbq d0 d1 i0 HPQ
              generalize Sort.grow (redrawn wr dq) osq = w4 at *
              have HNR : Hid (Lay.rightB l v = false) := right_no hlt HF.out
              go_wp2
              go_ret
              exact ⟨retB HNR.out.symm, below_over hw2 hbq2⟩
          · have HF : Hid (Lay.far l v k = false) := far_wide HN.out hn0
            have hne : (n == 0) = false := by simp [hn0]
            have cJ : ∀ d os, Calls Try.prog 39 #[.int .i64 op] (Sort.grow (redrawn wr d) os) fun e w'' => e = .returned (.bool true) ∧ ∃ p : Regrown, w'' = Sort.grow (redrawn wr p.d) p.os := by
              intro d os
              have h := l3JumpB op (Sort.grow (redrawn wr d) os)
              rw [hj] at h
              exact Calls.regrown_of h
            go_wp2_with fail
            refine wp_region_quiet_below (by kernel_rfl) (by kernel_rfl) ?_
            repeat (go_big_quiet_step ((go_at_call 39; exact cJ _ _)))
            refine wpQuiet_nil ?_
            intro _ hw'
            obtain ⟨⟨dq, osq⟩, hw''⟩ := hw'
            subst hw''
            clear cJ e0 e1 e2 hne
            have hbq2 : Below w2.heap.size w2 (Sort.grow (redrawn wr dq) osq) := below_over hbq (below_regrown wr dq osq)
            clear hbq d0 d1 i0 HPQ
            generalize Sort.grow (redrawn wr dq) osq = w4 at *
            have HNO : Hid (∀ j, j < k + 1 → Lay.far l v j = false) := by
              show ∀ j, _ → _
              intro j hj
              by_cases e : j = k
              · rw [e]; exact HF.out
              · exact hno.out j (by omega)
            go_wp2
            go_roundw
            case rel => exact ⟨k + 1, by omega, by go_num, HNO.out, hbq2⟩
            case measure => simp [intOf]; omega
      · have HN : Hid (Lay.rightB l v = true) := right_yes HWB.out (fun j hj => hno.out j (by omega))
        go_wp2
        go_ret
        exact ⟨retB HN.out.symm, below_over hw2 hbq⟩
end St
end Go.Proofs.Ytnlanikjlokboaa

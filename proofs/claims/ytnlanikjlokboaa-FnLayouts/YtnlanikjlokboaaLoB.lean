/- The contract of the other side's layout: made wide round by round till none is too far. -/
import Derived.Test.YtnlanikjlokboaaLoA
namespace Go.Proofs.Ytnlanikjlokboaa
namespace St
open Go.ChangeShapes Go.WideShapes Go.ChangeAt Go.RowKit


/-- Where a round of making wide stands: v at its begin, c now, k steps looked at, m: has one been made wide. -/
structure Stand (l : List Tx.Ins) (v c : List Int) (k : Nat) (m : Bool) : Prop where
  wide : Lay.Wide l c
  below : Lay.Below1 l c
  le : Lay.Le v c
  rest : ∀ j, k ≤ j → Lay.wd c j = Lay.wd v j
  few : Lay.shorts c ≤ Lay.shorts v
  less : m = true → Lay.shorts c < Lay.shorts v
  none : m = false → c = v ∧ ∀ j, j < k → Lay.far l v j = false
theorem Stand.start {l : List Tx.Ins} {v : List Int} (hw : Lay.Wide l v) (hb : Lay.Below1 l v) : Stand l v v 0 false :=
  ⟨hw, hb, Lay.Le.refl _, fun _ _ => rfl, Nat.le_refl _, fun h => by simp at h, fun _ => ⟨rfl, fun j h => absurd h (Nat.not_lt_zero _)⟩⟩
theorem Stand.on {l : List Tx.Ins} {v c : List Int} {k : Nat} {m : Bool} (h : Stand l v c k m) (hf : Lay.far l v k = false) : Stand l v c (k + 1) m :=
  ⟨h.wide, h.below, h.le, fun j hj => h.rest j (by omega), h.few, h.less, fun hm => ⟨(h.none hm).1, fun j hj => by
    by_cases e : j = k
    · rw [e]; exact hf
    · exact (h.none hm).2 j (by omega)⟩⟩
theorem Stand.made {l : List Tx.Ins} {v c : List Int} {k : Nat} {m : Bool} (h : Stand l v c k m) (hv : Lay.Wide l v) (hk : k < l.length) (hf : Lay.far l v k = true) : Stand l v (c.set k 1) (k + 1) true := by
  have hc : k < c.length := by rw [h.wide.1]; exact hk
  have hs := Lay.shorts_set hc (by rw [h.rest k (Nat.le_refl _)]; exact (Lay.far_wd hf).1)
  have := h.few
  refine ⟨Lay.wide_set h.wide hk (Lay.far_wd hf).2, Lay.below_set hv h.wide h.le h.below hk hf, h.le.trans (Lay.le_set h.wide hk), fun j hj => ?_, by omega, fun _ => by omega, fun e => by simp at e⟩
  rw [Lay.wd_set _ _ _ _ hc, if_neg (by omega)]
  exact h.rest j (by omega)

/-- As IGot, and the row is full. -/
def IGotF (B : Nat) (w : World) (v : Value) (l : List Int) : Prop := ∃ g, v = .slice (some ⟨g, 0, none⟩) l.length l.length ∧ B ≤ g ∧ g < w.heap.size ∧ IRow w g 0 l ∧ Room w g l.length
theorem IGotF.got {B : Nat} {w : World} {v : Value} {l : List Int} (h : IGotF B w v l) : IGot B w v l := by
  obtain ⟨g, h⟩ := h
  exact ⟨g, l.length, h⟩
theorem igotF_nil (w : World) (B : Nat) (hB : B ≤ w.heap.size) (t : TypeId) : IGotF B (w.alloc (.cells #[] t)) (.slice (some ⟨w.heap.size, 0, none⟩) 0 0) [] :=
  ⟨w.heap.size, rfl, hB, by simp, IRow.nil _ _ _, fun i hi => absurd hi (Nat.not_lt_zero _)⟩
set_option maxRecDepth 100000 in
set_option maxHeartbeats 2000000 in
theorem l3LayoutF (g cap : Nat) (l : List Tx.Ins) (hok : Lay.codeOk l = true) (w : World) (hr : Row w g 0 l) :
    Calls Try.prog 41 #[.slice (some ⟨g, 0, none⟩) l.length cap] w fun e w' => ∃ x, e = .returned x ∧ IGotF w.heap.size w' x (Lay.layF l) ∧ Below w.heap.size w w' := by
  obtain ⟨i0, hif, hz0, hz1, hz2⟩ := info_parts infoN
  have h40 := (Lay.ok_len hok).2
  have hpos := (Lay.ok_len hok).1
  have hgw : g < w.heap.size := row_lt hr hpos
  have HOK : Hid (Lay.codeOk l = true) := hok
  have HR : Hid (Row w g 0 l) := hr
  clear hok hr
  go_enter Try.func41, Try.ntmps41
  go_wp2_with (at_make; refine wpList_make_full _ rfl _ _ 25 rfl w.heap.size 2 i0 (.int .i64 0) 1 Try.underlying25 hif hz0 hz1 .i64 .i64 _ _ l.length rfl rfl rfl rfl (by rw [hz2]; omega) (by unfold maxLen; omega) (Nat.le_refl _) ?_; intro w0 hown0 hgrow0)
  have hroom := room_own hown0 (Nat.le_refl _)
  rw [Nat.mul_one] at hroom
  have HI0 : Hid (IRow w0 w.heap.size 0 (List.replicate l.length 0)) := irow_made hown0
  have HM0 : Hid (Room w0 w.heap.size l.length) := hroom
  have hsz0 : w.heap.size < w0.heap.size := made_lt hown0
  have hb0 : Below w.heap.size w w0 := (Below.refl _ _).grown hgrow0 (Nat.le_refl _) (fun _ h => by simp at h)
  clear hown0 hgrow0 hroom
  generalize hgb : w.heap.size = gw at *
  have HGB : Hid (w.heap.size = gw) := hgb
  clear hgb
  go_loopg [] (l.length) (fun n wr => ∃ v : List Int, Lay.shorts v ≤ n ∧ Hid (Lay.Wide l v) ∧ Hid (Lay.Below1 l v) ∧ Hid (IRow wr gw 0 v) ∧ Hid (Room wr gw l.length) ∧ gw < wr.heap.size ∧ Below gw w wr)
  case atStart => exact ⟨List.replicate l.length 0, by simp [Lay.shorts], Lay.zeros_wide l, Lay.zeros_below l, HI0.out, HM0.out, hsz0, hb0⟩
  case round =>
    obtain ⟨v, hs, hwd, hbl, hiv, hmv, hgl, hb⟩ := hrel
    go_wp2_with fail
    refine (l3Places g cap gw l.length l v h40 hwd.out _ (HR.out.below hb hgw) hiv.out).mono ?_
    rintro e w1 ⟨x, rfl, ⟨gp, cp, rfl, hgp1, hgp2, hp1, _⟩, hb1⟩
    rw [Lay.places_len]
    have HP1 : Hid (IRow w1 gp 0 (Lay.places l v)) := hp1
    have HR1 : Hid (Row w1 g 0 l) := (HR.out.below hb hgw).on hb1
    have HI1 : Hid (IRow w1 gw 0 v) := hiv.out.on hb1
    have HM1 : Hid (Room w1 gw l.length) := hmv.out.on hb1
    have hgg : gp ≠ gw := by omega
    have hgl1 : gw < w1.heap.size := Nat.lt_of_lt_of_le hgl hb1.size
    have hw1 : Below gw w w1 := hb.trans (hb1.mono (Nat.le_of_lt hgl))
    have hgwg : g ≠ gw := by omega
    have HPB : Hid (∀ j, 0 ≤ Lay.pl l v j ∧ Lay.pl l v j ≤ 6 * j) := Lay.pl_bd hwd.out.bit
    clear hp1 hb1 hiv hmv hb hgl hgp1 hgp2
    go_wp2_with fail
    go_loopg [5, 6] (l.length) (fun n mv i wq => ∃ (k : Nat) (m : Bool) (c : List Int), k + n = l.length ∧ i = .int .i64 k ∧ mv = .bool m ∧ Hid (Stand l v c k m) ∧ Hid (IRow wq gw 0 c) ∧ Hid (Room wq gw l.length) ∧ Hid (Row wq g 0 l) ∧ Hid (IRow wq gp 0 (Lay.places l v)) ∧ gw < wq.heap.size ∧ Below gw w wq)
    case atStart => exact ⟨0, false, v, by omega, rfl, rfl, Stand.start hwd.out hbl.out, HI1.out, HM1.out, HR1.out, HP1.out, hgl1, hw1⟩
    case round =>
      obtain ⟨k, m, c, hk, rfl, rfl, hst, hic, hmc, hrc, hpc, hgq, hbq⟩ := hrel
      by_cases hlt : k < l.length
      · have hlv : k < c.length := by rw [hst.out.wide.1]; exact hlt
        have HX0 : Lay.ins l k = l[k] := ins_at hlt
        have HN0 : Lay.wd v k = c[k] := by rw [← hst.out.rest k (Nat.le_refl _)]; exact wd_at hlv
        have HX : Hid (Lay.ins l k = l[k]) := HX0
        have HN : Hid (Lay.wd v k = c[k]) := HN0
        have HG : Hid (Lay.jumpB l[k].1 = true → 0 ≤ l[k].2.1 ∧ l[k].2.1 < (l.length : Int)) := Lay.ok_jump HOK.out (List.getElem?_eq_getElem hlt)
        obtain ⟨d0, d1, d2⟩ := hrc.out k _ (List.getElem?_eq_getElem hlt)
        have i0 := hic.out k _ (List.getElem?_eq_getElem hlv)
        have HPQ : Hid (IRow wr gp 0 (Lay.places l v)) := hpc.out
        clear HX0 HN0
        generalize l[k] = x at *
        generalize c[k] = n at *
        clear hlv
        obtain ⟨op, a, b⟩ := x
        simp only [Nat.zero_add] at d0 d1 d2 i0
        have hki : (k : Int) < (l.length : Int) := by omega
        have hki0 : (0 : Int) ≤ (k : Int) := by omega
        have hki1 : (k : Int) < (l.length : Int) + 1 := by omega
        clear d2
        have e0 := cell_regrown d0
        have e1 := cell_regrown d1
        have e2 := cell_regrown i0
        cases hj : Lay.jumpB op
        · have HF : Hid (Lay.far l v k = false) := far_no HX.out hj
          have cJ : ∀ d os, Calls Try.prog 39 #[.int .i64 op] (Sort.grow (redrawn wr d) os) fun e w'' => e = .returned (.bool false) ∧ ∃ p : Regrown, w'' = Sort.grow (redrawn wr p.d) p.os := by
            intro d os
            have h := l3JumpB op (Sort.grow (redrawn wr d) os)
            rw [hj] at h
            exact Calls.regrown_of h
          go_wp2_with fail
          refine wp_region_quiet_below (by kernel_rfl) (by kernel_rfl) ?_
          repeat (go_big_quiet_step ((go_at_call 39; exact cJ _ _)))
          refine wpQuiet_nil ?_
          intro _ hw'
          obtain ⟨⟨dq, osq⟩, hw''⟩ := hw'
          subst hw''
          clear cJ e0 e1 e2
          have hbg := below_regrown wr dq osq
          have HI4 : Hid (IRow (Sort.grow (redrawn wr dq) osq) gw 0 c) := hic.out.on hbg
          have HM4 : Hid (Room (Sort.grow (redrawn wr dq) osq) gw l.length) := hmc.out.on hbg
          have HR4 : Hid (Row (Sort.grow (redrawn wr dq) osq) g 0 l) := hrc.out.on hbg
          have HP4 : Hid (IRow (Sort.grow (redrawn wr dq) osq) gp 0 (Lay.places l v)) := hpc.out.on hbg
          have hg4 : gw < (Sort.grow (redrawn wr dq) osq).heap.size := Nat.lt_of_lt_of_le hgq hbg.size
          have hw4 : Below gw w (Sort.grow (redrawn wr dq) osq) := hbq.trans (hbg.mono (Nat.le_of_lt hgq))
          clear hbg hbq d0 d1 i0 HPQ hic hmc hrc hpc hgq
          generalize Sort.grow (redrawn wr dq) osq = w4 at *
          have HST : Hid (Stand l v c (k + 1) m) := hst.out.on HF.out
          go_wp2_with fail
          go_roundg (l.length - (k + 1))
          case measure => omega
          case rel => exact ⟨k + 1, m, c, by omega, by go_num, rfl, HST.out, HI4.out, HM4.out, HR4.out, HP4.out, hg4, hw4⟩
        · obtain ⟨ha0, ha1⟩ := HG.out hj
          have ha0' : 0 ≤ a := ha0
          have ha1' : a < (l.length : Int) := ha1
          by_cases hn0 : n = 0
          · subst hn0
            obtain ⟨t, ht⟩ : ∃ t : Nat, a = (t : Int) := ⟨a.toNat, by omega⟩
            have HF0 : Hid (Lay.far l v k = (Lay.jumpB op && decide ((0 : Int) = 0) && Lay.offB (Lay.pl l v t - Lay.pl l v k))) := far_eq HX.out HN.out ht
            subst ht
            have htl : t < l.length := by omega
            have q0 := HPQ.out k _ (Lay.places_at (v := v) (Nat.le_of_lt hlt))
            have q1 := HPQ.out t _ (Lay.places_at (v := v) (Nat.le_of_lt htl))
            have hpk := HPB.out k
            have hpt := HPB.out t
            simp only [Nat.zero_add] at q0 q1
            generalize hpkk : Lay.pl l v k = pk at *
            generalize hptt : Lay.pl l v t = pt at *
            clear hpkk hptt
            have ht1 : (0 : Int) ≤ (t : Int) := by omega
            have ht2 : (t : Int) < (l.length : Int) + 1 := by omega
            have hws : IntKind.i64.wrap (pt - pk) = pt - pk := by simp [IntKind.wrap, IntKind.signed, IntKind.bits]; omega
            have HF2 : Hid (Lay.far l v k = Lay.offB (pt - pk)) := by
              show Lay.far l v k = _
              rw [HF0.out, hj]; simp
            clear HF0 hpk hpt ha0 ha1 ha0' ha1'
            have e3 := cell_regrown q0
            have e4 := cell_regrown q1
            cases hf : Lay.offB (pt - pk)
            · have HF : Hid (Lay.far l v k = false) := HF2.out.trans hf
              have cL : ∀ d os, Calls Try.prog 40 #[.int .i64 (pt - pk), .int .i64 (-16), .int .i64 15] (Sort.grow (redrawn wr d) os) fun e w'' => e = .returned (.bool true) ∧ ∃ p : Regrown, w'' = Sort.grow (redrawn wr p.d) p.os := by
                intro d os
                have h := l1InB (pt - pk) (-16) 15 (Sort.grow (redrawn wr d) os)
                rw [off_in, hf] at h
                exact Calls.regrown_of h
              have cJ : ∀ d os, Calls Try.prog 39 #[.int .i64 op] (Sort.grow (redrawn wr d) os) fun e w'' => e = .returned (.bool true) ∧ ∃ p : Regrown, w'' = Sort.grow (redrawn wr p.d) p.os := by
                intro d os
                have h := l3JumpB op (Sort.grow (redrawn wr d) os)
                rw [hj] at h
                exact Calls.regrown_of h
              clear hf HF2
              go_wp2_with fail
              refine wp_region_quiet_below (by kernel_rfl) (by kernel_rfl) ?_
              repeat (go_big_quiet_step (first | (go_at_call 39; exact cJ _ _) | (go_at_call 40; exact cL _ _)))
              refine wpQuiet_nil ?_
              intro _ hw'
              obtain ⟨⟨dq, osq⟩, hw''⟩ := hw'
              subst hw''
              clear cJ cL e0 e1 e2 e3 e4 q0 q1 hws
              have hbg := below_regrown wr dq osq
              have HI4 : Hid (IRow (Sort.grow (redrawn wr dq) osq) gw 0 c) := hic.out.on hbg
              have HM4 : Hid (Room (Sort.grow (redrawn wr dq) osq) gw l.length) := hmc.out.on hbg
              have HR4 : Hid (Row (Sort.grow (redrawn wr dq) osq) g 0 l) := hrc.out.on hbg
              have HP4 : Hid (IRow (Sort.grow (redrawn wr dq) osq) gp 0 (Lay.places l v)) := hpc.out.on hbg
              have hg4 : gw < (Sort.grow (redrawn wr dq) osq).heap.size := Nat.lt_of_lt_of_le hgq hbg.size
              have hw4 : Below gw w (Sort.grow (redrawn wr dq) osq) := hbq.trans (hbg.mono (Nat.le_of_lt hgq))
              clear hbg hbq d0 d1 i0 HPQ hic hmc hrc hpc hgq
              generalize Sort.grow (redrawn wr dq) osq = w4 at *
              have HST : Hid (Stand l v c (k + 1) m) := hst.out.on HF.out
              go_wp2_with fail
              go_roundg (l.length - (k + 1))
              case measure => omega
              case rel => exact ⟨k + 1, m, c, by omega, by go_num, rfl, HST.out, HI4.out, HM4.out, HR4.out, HP4.out, hg4, hw4⟩
            · have HF : Hid (Lay.far l v k = true) := HF2.out.trans hf
              have cL : ∀ d os, Calls Try.prog 40 #[.int .i64 (pt - pk), .int .i64 (-16), .int .i64 15] (Sort.grow (redrawn wr d) os) fun e w'' => e = .returned (.bool false) ∧ ∃ p : Regrown, w'' = Sort.grow (redrawn wr p.d) p.os := by
                intro d os
                have h := l1InB (pt - pk) (-16) 15 (Sort.grow (redrawn wr d) os)
                rw [off_in, hf] at h
                exact Calls.regrown_of h
              have cJ : ∀ d os, Calls Try.prog 39 #[.int .i64 op] (Sort.grow (redrawn wr d) os) fun e w'' => e = .returned (.bool true) ∧ ∃ p : Regrown, w'' = Sort.grow (redrawn wr p.d) p.os := by
                intro d os
                have h := l3JumpB op (Sort.grow (redrawn wr d) os)
                rw [hj] at h
                exact Calls.regrown_of h
              clear hf HF2
              go_wp2_with fail
              refine wp_region_quiet_below (by kernel_rfl) (by kernel_rfl) ?_
              repeat (go_big_quiet_step (first | (go_at_call 39; exact cJ _ _) | (go_at_call 40; exact cL _ _)))
              refine wpQuiet_nil ?_
              intro _ hw'
              obtain ⟨⟨dq, osq⟩, hw''⟩ := hw'
              subst hw''
              clear cJ cL e0 e1 e2 e3 e4 q0 q1 hws
              have hbg := below_regrown wr dq osq
              have HI4 : Hid (IRow (Sort.grow (redrawn wr dq) osq) gw 0 c) := hic.out.on hbg
              have HM4 : Hid (Room (Sort.grow (redrawn wr dq) osq) gw l.length) := hmc.out.on hbg
              have HR4 : Hid (Row (Sort.grow (redrawn wr dq) osq) g 0 l) := hrc.out.on hbg
              have HP4 : Hid (IRow (Sort.grow (redrawn wr dq) osq) gp 0 (Lay.places l v)) := hpc.out.on hbg
              have hg4 : gw < (Sort.grow (redrawn wr dq) osq).heap.size := Nat.lt_of_lt_of_le hgq hbg.size
              have hw4 : Below gw w (Sort.grow (redrawn wr dq) osq) := hbq.trans (hbg.mono (Nat.le_of_lt hgq))
              clear hbg hbq d0 d1 i0 HPQ hic hmc hrc hpc hgq
              generalize Sort.grow (redrawn wr dq) osq = w4 at *
              have HST : Hid (Stand l v (c.set k 1) (k + 1) true) := hst.out.made hwd.out hlt HF.out
              have HI5 : Hid (IRow (w4.setCell ⟨gw, k, none⟩ (.int .i64 1)) gw 0 (c.set k 1)) := irow_set 1 HI4.out
              have HO5 : Hid (Only gw w4 (w4.setCell ⟨gw, k, none⟩ (.int .i64 1))) := (Only.refl gw w4).set _ _
              obtain ⟨⟨x0, z0⟩, f0⟩ := HM4.out k hlt
              go_wp2_with fail
              go_roundg (l.length - (k + 1))
              case measure => omega
              case rel => exact ⟨k + 1, true, c.set k 1, by omega, by go_num, rfl, HST.out, HI5.out, HM4.out.set _ _, HO5.out.row hgwg HR4.out, HO5.out.irow hgg HP4.out, by simpa using hg4, hw4.setCell (Nat.le_refl _) _⟩
          · have HF : Hid (Lay.far l v k = false) := far_wide HN.out hn0
            have hne : (n == 0) = false := by simp [hn0]
            have cJ : ∀ d os, Calls Try.prog 39 #[.int .i64 op] (Sort.grow (redrawn wr d) os) fun e w'' => e = .returned (.bool true) ∧ ∃ p : Regrown, w'' = Sort.grow (redrawn wr p.d) p.os := by
              intro d os
              have h := l3JumpB op (Sort.grow (redrawn wr d) os)
              rw [hj] at h
              exact Calls.regrown_of h
            go_wp2_with fail
            refine wp_region_quiet_below (by kernel_rfl) (by kernel_rfl) ?_
            repeat (go_big_quiet_step ((go_at_call 39; exact cJ _ _)))
            refine wpQuiet_nil ?_
            intro _ hw'
            obtain ⟨⟨dq, osq⟩, hw''⟩ := hw'
            subst hw''
            clear cJ e0 e1 e2 hne
            have hbg := below_regrown wr dq osq
            have HI4 : Hid (IRow (Sort.grow (redrawn wr dq) osq) gw 0 c) := hic.out.on hbg
            have HM4 : Hid (Room (Sort.grow (redrawn wr dq) osq) gw l.length) := hmc.out.on hbg
            have HR4 : Hid (Row (Sort.grow (redrawn wr dq) osq) g 0 l) := hrc.out.on hbg
            have HP4 : Hid (IRow (Sort.grow (redrawn wr dq) osq) gp 0 (Lay.places l v)) := hpc.out.on hbg
            have hg4 : gw < (Sort.grow (redrawn wr dq) osq).heap.size := Nat.lt_of_lt_of_le hgq hbg.size
            have hw4 : Below gw w (Sort.grow (redrawn wr dq) osq) := hbq.trans (hbg.mono (Nat.le_of_lt hgq))
            clear hbg hbq d0 d1 i0 HPQ hic hmc hrc hpc hgq
            generalize Sort.grow (redrawn wr dq) osq = w4 at *
            have HST : Hid (Stand l v c (k + 1) m) := hst.out.on HF.out
            go_wp2_with fail
            go_roundg (l.length - (k + 1))
            case measure => omega
            case rel => exact ⟨k + 1, m, c, by omega, by go_num, rfl, HST.out, HI4.out, HM4.out, HR4.out, HP4.out, hg4, hw4⟩
      · cases m
        · have hnn := hst.out.none rfl
          have HLE : Hid (c = Lay.layF l) := by
            show c = _
            rw [hnn.1]
            exact Lay.lay_of ⟨⟨hwd.out, fun j hj => hnn.2 j (by omega)⟩, hbl.out⟩
          have HLL : Hid ((Lay.layF l).length = l.length) := Lay.lay_len l
          clear hnn
          go_wp2_with fail
          go_ret
          refine ⟨_, rfl, ?_, ?_⟩
          · rw [HGB.out]
            exact ⟨gw, by rw [HLL.out]; rfl, Nat.le_refl _, hgq, by rw [← HLE.out]; exact hic.out, by rw [HLL.out]; exact hmc.out⟩
          · rw [HGB.out]
            exact hbq
        · have HLS : Hid (Lay.shorts c < Lay.shorts v) := hst.out.less rfl
          go_wp2_with fail
          go_roundg (Lay.shorts c)
          case measure => have := HLS.out; omega
          case rel => exact ⟨c, Nat.le_refl _, hst.out.wide, hst.out.below, hic.out, hmc.out, hgq, hbq⟩
theorem l3Layout (g cap : Nat) (l : List Tx.Ins) (hok : Lay.codeOk l = true) (w : World) (hr : Row w g 0 l) :
    Calls Try.prog 41 #[.slice (some ⟨g, 0, none⟩) l.length cap] w fun e w' => ∃ x, e = .returned x ∧ IGot w.heap.size w' x (Lay.layF l) ∧ Below w.heap.size w w' :=
  (l3LayoutF g cap l hok w hr).mono fun _ _ ⟨x, h1, h2, h3⟩ => ⟨x, h1, h2.got, h3⟩
set_option maxRecDepth 100000 in
set_option maxHeartbeats 1000000 in
theorem specLayoutOfF (g cap : Nat) (l : List Tx.Ins) (hl : l.length ≤ 1048576) (w : World) (hr : Row w g 0 l) :
    Calls Try.prog 13 #[.slice (some ⟨g, 0, none⟩) l.length cap] w fun e w' => ∃ x, e = .returned x ∧ IGotF w.heap.size w' x (layC l) ∧ Below w.heap.size w w' := by
  have HR : Hid (Row w g 0 l) := hr
  clear hr
  cases hok : Lay.codeOk l
  · have HN : Hid (layC l = []) := by
      show layC l = []
      simp [layC, hok]
    go_enter Try.func13, Try.ntmps13
    go_wp2_with fail
    refine (specCodeOk g cap l hl _ HR.out).mono ?_
    rw [hok]
    rintro e w1 ⟨rfl, hb1⟩
    go_wp2
    go_ret
    exact ⟨_, rfl, by rw [HN.out]; exact igotF_nil w1 _ hb1.size _, hb1.alloc hb1.size _⟩
  · have HN : Hid (layC l = Lay.layF l) := by
      show layC l = Lay.layF l
      simp [layC, hok]
    have HOK : Hid (Lay.codeOk l = true) := hok
    go_enter Try.func13, Try.ntmps13
    go_wp2_with fail
    refine (specCodeOk g cap l hl _ HR.out).mono ?_
    rw [hok]
    rintro e w1 ⟨rfl, hb1⟩
    go_wp2_with fail
    refine (l3LayoutF g cap l HOK.out _ (HR.out.on hb1)).mono ?_
    rintro e w2 ⟨x, rfl, hg2, hb2⟩
    have hw2 : Below w.heap.size w w2 := below_over hb1 hb2
    have HG : Hid (IGotF w1.heap.size w2 x (Lay.layF l)) := hg2
    clear hg2 hb2
    go_wp2
    go_ret
    refine ⟨_, rfl, ?_, hw2⟩
    rw [HN.out]
    obtain ⟨g1, e1, h1, h2⟩ := HG.out
    exact ⟨g1, e1, Nat.le_trans hb1.size h1, h2⟩
theorem specLayoutOf (g cap : Nat) (l : List Tx.Ins) (hl : l.length ≤ 1048576) (w : World) (hr : Row w g 0 l) :
    Calls Try.prog 13 #[.slice (some ⟨g, 0, none⟩) l.length cap] w fun e w' => ∃ x, e = .returned x ∧ IGot w.heap.size w' x (layC l) ∧ Below w.heap.size w w' :=
  (specLayoutOfF g cap l hl w hr).mono fun _ _ ⟨x, h1, h2, h3⟩ => ⟨x, h1, h2.got, h3⟩
end St
end Go.Proofs.Ytnlanikjlokboaa

/- The contract of the program's test whether a short jump goes too far. -/
import Derived.Test.YtnlanikjlokboaaLo3
namespace Go.Proofs.Ytnlanikjlokboaa
namespace St
open Go.ChangeShapes Go.WideShapes Go.ChangeAt Go.RowKit

/-- What is too far, by the step, its width and the two places. -/
theorem far_eq {l : List Tx.Ins} {v : List Int} {k t : Nat} {op n a b : Int} (hx : Lay.ins l k = (op, a, b)) (hn : Lay.wd v k = n) (ht : a = (t : Int)) : Lay.far l v k = (Lay.jumpB op && decide (n = 0) && Lay.offB (Lay.pl l v t - Lay.pl l v k)) := by
  unfold Lay.far Lay.dist
  rw [hx, hn, ht]
  simp
theorem far_no {l : List Tx.Ins} {v : List Int} {k : Nat} {op a b : Int} (hx : Lay.ins l k = (op, a, b)) (hj : Lay.jumpB op = false) : Lay.far l v k = false := by
  unfold Lay.far
  rw [hx]
  simp [hj]
theorem far_wide {l : List Tx.Ins} {v : List Int} {k : Nat} {n : Int} (hn : Lay.wd v k = n) (h : ¬ n = 0) : Lay.far l v k = false := by
  unfold Lay.far
  rw [hn]
  simp [h]

set_option maxRecDepth 100000 in
set_option maxHeartbeats 1000000 in
theorem tooFar (g cap g' cap' g'' cap'' : Nat) (l : List Tx.Ins) (v : List Int) (hok : Lay.codeOk l = true) (hv : v.length = l.length) (hbit : ∀ k, Lay.wd v k = 0 ∨ Lay.wd v k = 1) (k : Nat) (hk : k < l.length) (w : World) (hr : Row w g 0 l) (hi : IRow w g' 0 v) (hp : IRow w g'' 0 (Lay.places l v)) :
    Calls Try.prog 35 #[.slice (some ⟨g, 0, none⟩) l.length cap, .slice (some ⟨g', 0, none⟩) l.length cap', .slice (some ⟨g'', 0, none⟩) (l.length + 1) cap'', .int .i64 k] w fun e w' => e = .returned (.bool (Lay.far l v k)) ∧ Below w.heap.size w w' := by
  have hlv : k < v.length := by rw [hv]; exact hk
  have h40 := (Lay.ok_len hok).2
  have hx : Lay.ins l k = l[k] := ins_at hk
  have hn : Lay.wd v k = v[k] := wd_at hlv
  have hgood : Lay.jumpB l[k].1 = true → 0 ≤ l[k].2.1 ∧ l[k].2.1 < (l.length : Int) := Lay.ok_jump hok (List.getElem?_eq_getElem hk)
  have HP : Hid (IRow w g'' 0 (Lay.places l v)) := hp
  have HG : Hid (Lay.jumpB l[k].1 = true → 0 ≤ l[k].2.1 ∧ l[k].2.1 < (l.length : Int)) := hgood
  obtain ⟨d0, d1, d2⟩ := hr k _ (List.getElem?_eq_getElem hk)
  have i0 := hi k _ (List.getElem?_eq_getElem hlv)
  have hb01 := hbit k
  have HPB : Hid (∀ j, 0 ≤ Lay.pl l v j ∧ Lay.pl l v j ≤ 6 * j) := Lay.pl_bd hbit
  rw [hn] at hb01
  have HN : Hid (Lay.wd v k = v[k]) := hn
  have HX : Hid (Lay.ins l k = l[k]) := hx
  clear hx hn hgood hr hi hp hv hok hbit
  generalize l[k] = x at *
  generalize v[k] = n at *
  obtain ⟨op, a, b⟩ := x
  simp only [Nat.zero_add] at d0 d1 d2 i0
  have hki : (k : Int) < (l.length : Int) := by omega
  have hk1 : (0 : Int) ≤ (k : Int) := by omega
  have hk2 : (k : Int) < (l.length : Int) + 1 := by omega
  clear hlv
  cases hj : Lay.jumpB op
  · have HF : Hid (Lay.far l v k = false) := far_no HX.out hj
    go_enter Try.func35, Try.ntmps35
    go_wp2_with fail
    refine (isJump op a b _).mono ?_
    rw [hj]
    rintro e w1 ⟨rfl, hb1⟩
    go_wp2
    go_ret
    exact ⟨retB HF.out.symm, hb1⟩
  · obtain ⟨ha0, ha1⟩ := HG.out hj
    have ha0' : 0 ≤ a := ha0
    have ha1' : a < (l.length : Int) := ha1
    by_cases hn1 : n = 1
    · have HF : Hid (Lay.far l v k = false) := far_wide HN.out (by omega)
      subst hn1
      go_enter Try.func35, Try.ntmps35
      go_wp2_with fail
      refine (isJump op a b _).mono ?_
      rw [hj]
      rintro e w1 ⟨rfl, hb1⟩
      have i0' := (hb1.cell (cell_lt i0)).trans i0
      go_wp2
      go_ret
      exact ⟨retB HF.out.symm, hb1⟩
    · have hn0 : n = 0 := by omega
      subst hn0
      obtain ⟨t, ht⟩ : ∃ t : Nat, a = (t : Int) := ⟨a.toNat, by omega⟩
      have HF : Hid (Lay.far l v k = (Lay.jumpB op && decide ((0 : Int) = 0) && Lay.offB (Lay.pl l v t - Lay.pl l v k))) := far_eq HX.out HN.out ht
      subst ht
      have htl : t < l.length := by omega
      have q0 := HP.out k _ (Lay.places_at (v := v) (Nat.le_of_lt hk))
      have q1 := HP.out t _ (Lay.places_at (v := v) (Nat.le_of_lt htl))
      have hpk := HPB.out k
      have hpt := HPB.out t
      simp only [Nat.zero_add] at q0 q1
      generalize Lay.pl l v k = pk at *
      generalize Lay.pl l v t = pt at *
      have ht1 : (0 : Int) ≤ (t : Int) := by omega
      have ht2 : (t : Int) < (l.length : Int) + 1 := by omega
      have hws : IntKind.i64.wrap (pt - pk) = pt - pk := by simp [IntKind.wrap, IntKind.signed, IntKind.bits]; omega
      have HF2 : Hid (Lay.far l v k = Lay.offB (pt - pk)) := by
        show Lay.far l v k = _
        rw [HF.out, hj]; simp
      clear HF HG HX HN HPB hpk hpt ha0 ha1 ha0' ha1' hn1 hb01
      go_enter Try.func35, Try.ntmps35
      go_wp2_with fail
      refine (isJump op t b _).mono ?_
      rw [hj]
      rintro e w1 ⟨rfl, hb1⟩
      have i0' := (hb1.cell (cell_lt i0)).trans i0
      have e1 := cell_regrown ((hb1.cell (cell_lt d1)).trans d1)
      have r0 := cell_regrown ((hb1.cell (cell_lt q0)).trans q0)
      have r1 := cell_regrown ((hb1.cell (cell_lt q1)).trans q1)
      clear d0 d1 d2 i0 q0 q1
      go_wp2_with fail
      refine wp_region_quiet_below (by kernel_rfl) (by kernel_rfl) ?_
      repeat (quiet_step (fail))
      refine wpQuiet_nil ?_
      intro _ hw'
      obtain ⟨⟨dq, osq⟩, hw''⟩ := hw'
      subst hw''
      have hw1 : Below w.heap.size w (Sort.grow (redrawn w1 dq) osq) := below_over hb1 (below_regrown w1 dq osq)
      clear e1 r0 r1 hb1 i0'
      generalize Sort.grow (redrawn w1 dq) osq = w2 at *
      clear hws
      generalize pt - pk = d at *
      by_cases hd : d < -16
      · have HD : Hid (Lay.far l v k = true) := by
          show Lay.far l v k = true
          rw [HF2.out, Lay.offB]; simp [hd]
        go_wp2
        go_ret
        exact ⟨retB HD.out.symm, hw1⟩
      · have HD : Hid (Lay.far l v k = decide (15 < d)) := by
          show Lay.far l v k = _
          rw [HF2.out, Lay.offB]; simp [hd]
        go_wp2
        go_ret
        exact ⟨retB (by rw [HD.out]), hw1⟩
end St
end Go.Proofs.Ytnlanikjlokboaa

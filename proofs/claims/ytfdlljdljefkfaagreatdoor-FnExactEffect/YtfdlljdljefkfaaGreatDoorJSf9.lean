/- Contracts of the specification's effect of a step (Sf9). -/
import Derived.Test.YtfdlljdljefkfaaGreatDoorJSf7
import Derived.Test.YtfdlljdljefkfaaGreatDoorJKi1
namespace Go.Proofs.YtfdlljdljefkfaaGreatDoor
namespace Pg
open Go.ChangeShapes Go.WideShapes Go.ChangeAt Go.RowKit St

theorem wrapSub {n d : Nat} (h : d ≤ n) (h8 : n ≤ 1000) : IntKind.i64.wrap ((n : Int) - (d : Int)) = ((n - d : Nat) : Int) := by
  unfold IntKind.wrap
  have e1 : IntKind.i64.bits = 64 := rfl
  have e2 : IntKind.i64.signed = true := rfl
  have e3 : ((n : Int) - (d : Int)) % 2 ^ 64 = ((n - d : Nat) : Int) := by omega
  simp only [e1, e2, e3]
  rw [if_neg]
  simp
  omega

set_option maxRecDepth 100000 in
set_option maxHeartbeats 4000000 in
theorem l7_15 (B : Nat) (p : Prg) (hok' : okP p = true) (hsp : SmallP p) (w : World) (pa : Option Addr) (pc : Nat) (hp : SK front B w (.slice pa p.length pc) p) (a b gives : Int) (ha0 : 0 ≤ a) (hb0 : 0 ≤ b) (z1 z2 : Option Addr) (c1 c2 : Nat) (st lo : List Int) (hst : okSt p (st, lo)) (hc1 : st.length ≤ c1) (hs : SI true B w (.slice z1 st.length c1) st) (hl : SI true B w (.slice z2 lo.length c2) lo) :
    Calls Tryz.prog 21 #[.agg #[.slice pa p.length pc], .int .i64 gives, .agg #[.int .i64 15, .int .i64 a, .int .i64 b], .agg #[.slice z1 st.length c1, .slice z2 lo.length c2]] w fun e w' => L7Post (effF p gives (15, a, b) (st, lo)) w e w' := by
  have HOKP : Hid (okP p = true) := hok'
  have HSP : Hid (SmallP p) := hsp
  have h6 : p.length ≤ 6 := (okP_len hok').2
  have hp0 : 0 < p.length := (okP_len hok').1
  have HSU : Hid (SupOk p p.length) := (ok_sup hok').sup
  have HP : Hid (SK front B w (.slice pa p.length pc) p) := hp
  have HS : Hid (SI true B w (.slice z1 st.length c1) st) := hs
  have HL : Hid (SI true B w (.slice z2 lo.length c2) lo) := hl
  obtain ⟨hst8, hlo8, hkst, hklo⟩ := okSt_iff.1 hst
  dsimp only at hst8 hlo8 hkst hklo
  have HST : Hid (st.length ≤ 8 ∧ lo.length = 8) := ⟨hst8, hlo8⟩
  have HKS : Hid (st.all (kindB p.length) = true ∧ lo.all (kindB p.length) = true) := ⟨hkst, hklo⟩
  have HBW : Hid (B ≤ w.heap.size) := si_base hl (by omega)
  obtain ⟨T1, HT1⟩ : ∃ T, Hid ((if st.length < 1 then (-3 : Int) else topF st 1) = T) := ⟨_, rfl⟩
  obtain ⟨T2, HT2⟩ : ∃ T, Hid ((if st.length < 2 then (-3 : Int) else topF st 2) = T) := ⟨_, rfl⟩
  clear hok' hsp hp hs hl hst hlo8 hkst hklo
  obtain ⟨W, hW⟩ : ∃ W, W = (((w.alloc (.cells #[.slice pa p.length pc] 37)).alloc (.cells #[.int .i64 15, .int .i64 a, .int .i64 b] 39)).alloc (.cells #[.slice z1 st.length c1, .slice z2 lo.length c2] 32)).alloc (.cells #[.slice none 0 0, .slice none 0 0] 32) := ⟨_, rfl⟩
  have hwW : Below w.heap.size w W := by rw [hW]; exact ((((Below.refl _ _).alloc (Nat.le_refl _) _).alloc (by simp) _).alloc (by simp; omega) _).alloc (by simp; omega) _
  have C0 : Hid (Cells W w.heap.size [.slice pa p.length pc]) := by rw [hW]; exact (((Cells.new w _ rfl _ _).alloc _).alloc _).alloc _
  have C1 : Hid (Cells W (w.heap.size + 1) [.int .i64 15, .int .i64 a, .int .i64 b]) := by rw [hW]; exact ((Cells.new (w.alloc _) _ (by simp) _ _).alloc _).alloc _
  have C2 : Hid (Cells W (w.heap.size + 1 + 1) [.slice z1 st.length c1, .slice z2 lo.length c2]) := by rw [hW]; exact (Cells.new ((w.alloc _).alloc _) _ (by simp) _ _).alloc _
  have R0 : Hid (Cells W (w.heap.size + 1 + 1 + 1) [.slice none 0 0, .slice none 0 0]) := by rw [hW]; exact Cells.new (((w.alloc _).alloc _).alloc _) _ (by simp) _ _
  have HZ : Hid (W.heap.size = w.heap.size + 1 + 1 + 1 + 1) := by rw [hW]; show _ = _; simp
  have CN : Hid (Cells (W.alloc (.cells #[.slice none 0 0, .slice none 0 0] 32)) W.heap.size [.slice none 0 0, .slice none 0 0]) := Cells.new W _ rfl _ _
  have hbV : Below W.heap.size W (W.alloc (.cells #[.slice none 0 0, .slice none 0 0] 32)) := (Below.refl _ _).alloc (Nat.le_refl _) _
  obtain ⟨c, rfl⟩ : ∃ c : Nat, a = (c : Int) := ⟨a.toNat, by omega⟩
  obtain ⟨f, rfl⟩ : ∃ f : Nat, b = (f : Int) := ⟨b.toNat, by omega⟩
  clear ha0 hb0
  go_enter Tryz.func21, Tryz.ntmps21
  go_wp2_with fail
  rw [← hW]
  clear hW
  refine (l7Back_at B z1 c1 st (by omega) 1 (by omega) (by omega) W (SI.on HS.out (Keep.of hwW))).mono ?_
  rw [HT1.out]
  rintro e w1 ⟨rfl, rfl⟩
  obtain ⟨t0, _⟩ := C2.out.g0
  go_wp2_with fail
  refine (l7Back_at B z1 c1 st (by omega) 2 (by omega) (by omega) W (SI.on HS.out (Keep.of hwW))).mono ?_
  rw [HT2.out]
  rintro e w1 ⟨rfl, rfl⟩
  clear t0
  obtain ⟨i0, _⟩ := (C1.out.on hbV).g0
  obtain ⟨i1, _⟩ := (C1.out.on hbV).g1
  obtain ⟨i2, _⟩ := (C1.out.on hbV).g2
  obtain ⟨t0, _⟩ := (C2.out.on hbV).g0
  obtain ⟨t1, _⟩ := (C2.out.on hbV).g1
  obtain ⟨p0, _⟩ := (C0.out.on hbV).g0
  by_cases hn : st.length < 1
  · have hn0 : decide ((st.length : Int) < 1) = true := by simp; omega
    go_wp2_with fail
    generalize (W.alloc (.cells #[.slice none 0 0, .slice none 0 0] 32)) = V at *
    have e0 := cell_regrown i1
    have e1 := cell_regrown i2
    have e2 := cell_regrown p0
    have e3 := cell_regrown t0
    have e4 := cell_regrown t1
    refine wp_region_quiet_below (by kernel_rfl) (by kernel_rfl) ?_
    repeat (go_big_quiet_step (fail))
    refine wpQuiet_nil ?_
    intro _ hw'
    obtain ⟨⟨dq, osq⟩, hw''⟩ := hw'
    subst hw''
    have hbX : Below V.heap.size V (Sort.grow (redrawn V dq) osq) := below_regrown V dq osq
    have hX : Below W.heap.size W (Sort.grow (redrawn V dq) osq) := below_over hbV hbX
    clear e0 e1 e2 e3 e4  i1 i2 p0 t0 t1 
    generalize Sort.grow (redrawn V dq) osq = X at *
    have HEF : Hid (effF p gives (15, (c : Int), (f : Int)) (st, lo) = none) := by
      show _ = _
      rw [show effF p gives (15, (c : Int), (f : Int)) (st, lo) = (fldF p (c : Int) (f : Int)).bind fun t => tpF p (st, lo) [(c : Int)] [t] from by simp [effF]]
      cases fldF p (c : Int) (f : Int) with
      | none => rfl
      | some t => rw [Option.bind_some, tp_one, if_pos (.inl hn)]
    have RA := R0.out.on hX
    obtain ⟨r0, q0⟩ := RA.g0
    obtain ⟨r1, q1⟩ := RA.g1
    have R5 := (RA.s0 (.slice none 0 0)).s1 (.slice none 0 0)
    obtain ⟨e0, _⟩ := R5.g0
    obtain ⟨e1, _⟩ := R5.g1
    have CNX : Cells X W.heap.size [.slice none 0 0, .slice none 0 0] := CN.out.on hbX
    obtain ⟨n0, _⟩ := CNX.g0
    obtain ⟨n1, _⟩ := CNX.g1
    have HB : Hid (Below w.heap.size w ((X.setCell ⟨w.heap.size + 1 + 1 + 1, 0, none⟩ (.slice none 0 0)).setCell ⟨w.heap.size + 1 + 1 + 1, 1, none⟩ (.slice none 0 0))) := ((below_over hwW hX).setCell (p := ⟨w.heap.size + 1 + 1 + 1, 0, none⟩) (by simp; omega) _).setCell (p := ⟨w.heap.size + 1 + 1 + 1, 1, none⟩) (by simp; omega) _
    clear RA R5 CNX 
    go_wp2
    refine bodyPost_ret (v := .tuple #[.agg #[.slice none 0 0, .slice none 0 0], .bool false]) (by simp [results, Tryz.results21, go_sem, e0, e1]) rfl ?_
    exact ⟨.inr ⟨HEF.out, none, 0, 0, none, 0, 0, rfl⟩, HB.out⟩
  · by_cases hc : ¬ c < p.length
    · have hn0 : decide ((st.length : Int) < 1) = false := by simp; omega
      have hci : (p.length : Int) ≤ (c : Int) := by omega
      have hd1 : decide ((p.length : Int) ≤ (c : Int)) = true := by simp; omega
      go_wp2_with fail
      generalize (W.alloc (.cells #[.slice none 0 0, .slice none 0 0] 32)) = V at *
      have e0 := cell_regrown i1
      have e1 := cell_regrown i2
      have e2 := cell_regrown p0
      have e3 := cell_regrown t0
      have e4 := cell_regrown t1
      refine wp_region_quiet_below (by kernel_rfl) (by kernel_rfl) ?_
      repeat (go_big_quiet_step (fail))
      refine wpQuiet_nil ?_
      intro _ hw'
      obtain ⟨⟨dq, osq⟩, hw''⟩ := hw'
      subst hw''
      have hbX : Below V.heap.size V (Sort.grow (redrawn V dq) osq) := below_regrown V dq osq
      have hX : Below W.heap.size W (Sort.grow (redrawn V dq) osq) := below_over hbV hbX
      clear e0 e1 e2 e3 e4  i1 i2 p0 t0 t1 
      generalize Sort.grow (redrawn V dq) osq = X at *
      have HEF : Hid (effF p gives (15, (c : Int), (f : Int)) (st, lo) = none) := by
        show _ = _
        rw [show effF p gives (15, (c : Int), (f : Int)) (st, lo) = (fldF p (c : Int) (f : Int)).bind fun t => tpF p (st, lo) [(c : Int)] [t] from by simp [effF]]
        rw [fld_out _ hc]; rfl
      have RA := R0.out.on hX
      obtain ⟨r0, q0⟩ := RA.g0
      obtain ⟨r1, q1⟩ := RA.g1
      have R5 := (RA.s0 (.slice none 0 0)).s1 (.slice none 0 0)
      obtain ⟨e0, _⟩ := R5.g0
      obtain ⟨e1, _⟩ := R5.g1
      have CNX : Cells X W.heap.size [.slice none 0 0, .slice none 0 0] := CN.out.on hbX
      obtain ⟨n0, _⟩ := CNX.g0
      obtain ⟨n1, _⟩ := CNX.g1
      have HB : Hid (Below w.heap.size w ((X.setCell ⟨w.heap.size + 1 + 1 + 1, 0, none⟩ (.slice none 0 0)).setCell ⟨w.heap.size + 1 + 1 + 1, 1, none⟩ (.slice none 0 0))) := ((below_over hwW hX).setCell (p := ⟨w.heap.size + 1 + 1 + 1, 0, none⟩) (by simp; omega) _).setCell (p := ⟨w.heap.size + 1 + 1 + 1, 1, none⟩) (by simp; omega) _
      clear RA R5 CNX 
      go_wp2
      refine bodyPost_ret (v := .tuple #[.agg #[.slice none 0 0, .slice none 0 0], .bool false]) (by simp [results, Tryz.results21, go_sem, e0, e1]) rfl ?_
      exact ⟨.inr ⟨HEF.out, none, 0, 0, none, 0, 0, rfl⟩, HB.out⟩
    · have hc : c < p.length := by omega
      obtain ⟨kb, ko, hpa, hBb, vf, vm, d0, d1, d2, hcv⟩ := HP.out.get hc
      subst hpa
      obtain ⟨x1, y1, rfl⟩ := hcv.1.form
      have HF : Hid (SI true B w (.slice x1 p[c].fields.length y1) p[c].fields) := hcv.1
      have HFL : Hid (fldF p (c : Int) (f : Int) = p[c].fields[f]?) := fld_at (List.getElem?_eq_getElem hc)
      have hsz : p[c].fields.length ≤ 1048576 := (HSP.out.2 _ (List.getElem_mem hc)).1
      have hci : (c : Int) < (p.length : Int) := by omega
      have hn0 : decide ((st.length : Int) < 1) = false := by simp; omega
      have hd1 : decide ((p.length : Int) ≤ (c : Int)) = false := by simp; omega
      have hd1n : ¬ p.length ≤ c := by omega
      have l0 : kb < w.heap.size := cell_lt d0
      have HD1 : Hid (w.cell? ⟨kb, ko + c * 3 + 1, none⟩ = some (.slice x1 p[c].fields.length y1)) := d1
      clear hcv d0 d1 d2
      generalize p[c] = C at *
      have dV := (below_over hwW hbV).cell l0 |>.trans HD1.out
      by_cases hf : ¬ f < C.fields.length
      · have hfi : (C.fields.length : Int) ≤ (f : Int) := by omega
        have hd2 : decide ((C.fields.length : Int) ≤ (f : Int)) = true := by simp; omega
        go_wp2_with fail
        generalize (W.alloc (.cells #[.slice none 0 0, .slice none 0 0] 32)) = V at *
        have e0 := cell_regrown i1
        have e1 := cell_regrown i2
        have e2 := cell_regrown p0
        have e3 := cell_regrown t0
        have e4 := cell_regrown t1
        have e5 := cell_regrown dV
        refine wp_region_quiet_below (by kernel_rfl) (by kernel_rfl) ?_
        repeat (go_big_quiet_step (fail))
        refine wpQuiet_nil ?_
        intro _ hw'
        obtain ⟨⟨dq, osq⟩, hw''⟩ := hw'
        subst hw''
        have hbX : Below V.heap.size V (Sort.grow (redrawn V dq) osq) := below_regrown V dq osq
        have hX : Below W.heap.size W (Sort.grow (redrawn V dq) osq) := below_over hbV hbX
        clear e0 e1 e2 e3 e4 e5  i1 i2 p0 t0 t1 dV 
        generalize Sort.grow (redrawn V dq) osq = X at *
        have HEF : Hid (effF p gives (15, (c : Int), (f : Int)) (st, lo) = none) := by
          show _ = _
          rw [show effF p gives (15, (c : Int), (f : Int)) (st, lo) = (fldF p (c : Int) (f : Int)).bind fun t => tpF p (st, lo) [(c : Int)] [t] from by simp [effF]]
          rw [HFL.out, List.getElem?_eq_none (by omega)]; rfl
        have RA := R0.out.on hX
        obtain ⟨r0, q0⟩ := RA.g0
        obtain ⟨r1, q1⟩ := RA.g1
        have R5 := (RA.s0 (.slice none 0 0)).s1 (.slice none 0 0)
        obtain ⟨e0, _⟩ := R5.g0
        obtain ⟨e1, _⟩ := R5.g1
        have CNX : Cells X W.heap.size [.slice none 0 0, .slice none 0 0] := CN.out.on hbX
        obtain ⟨n0, _⟩ := CNX.g0
        obtain ⟨n1, _⟩ := CNX.g1
        have HB : Hid (Below w.heap.size w ((X.setCell ⟨w.heap.size + 1 + 1 + 1, 0, none⟩ (.slice none 0 0)).setCell ⟨w.heap.size + 1 + 1 + 1, 1, none⟩ (.slice none 0 0))) := ((below_over hwW hX).setCell (p := ⟨w.heap.size + 1 + 1 + 1, 0, none⟩) (by simp; omega) _).setCell (p := ⟨w.heap.size + 1 + 1 + 1, 1, none⟩) (by simp; omega) _
        clear RA R5 CNX 
        go_wp2
        refine bodyPost_ret (v := .tuple #[.agg #[.slice none 0 0, .slice none 0 0], .bool false]) (by simp [results, Tryz.results21, go_sem, e0, e1]) rfl ?_
        exact ⟨.inr ⟨HEF.out, none, 0, 0, none, 0, 0, rfl⟩, HB.out⟩
      · have hf : f < C.fields.length := by omega
        have hfi : (f : Int) < (C.fields.length : Int) := by omega
        have hd2 : decide ((C.fields.length : Int) ≤ (f : Int)) = false := by simp; omega
        have hd2n : ¬ C.fields.length ≤ f := by omega
        obtain ⟨b2, o2, rfl, _, a2⟩ := HF.out.get hf
        have l2 : b2 < w.heap.size := cell_lt a2
        rw [List.getElem?_eq_getElem hf] at HFL
        generalize C.fields[f] = x at *
        have a2 : w.cell? ⟨b2, o2 + f, none⟩ = some (.int .i64 x) := by simpa [IntAt] using a2
        have HA2 : Hid (w.cell? ⟨b2, o2 + f, none⟩ = some (.int .i64 x)) := a2
        have hk1 := get_kind HKS.out.1 hp0 (st.length - 1)
        have HQ1 : Hid (T1 = topF st 1) := by show _ = _; rw [← HT1.out, if_neg (by omega)]
        rw [show st.getD (st.length - 1) 0 = T1 from HQ1.out.symm] at hk1
        clear a2
        go_wp2_with fail
        generalize (W.alloc (.cells #[.slice none 0 0, .slice none 0 0] 32)) = V at *
        have e0 := cell_regrown i1
        have e1 := cell_regrown i2
        have e2 := cell_regrown p0
        have e3 := cell_regrown t0
        have e4 := cell_regrown t1
        have e5 := cell_regrown dV
        have q0 : ∀ d os, Calls Tryz.prog 41 #[.agg #[.slice (some ⟨kb, ko, none⟩) p.length pc], .int .i64 T1, .int .i64 (c : Int)] (Sort.grow (redrawn V d) os) fun e w'' => e = .returned (.bool (fitB p T1 (c : Int))) ∧ ∃ p : Regrown, w'' = Sort.grow (redrawn V p.d) p.os := by
          intro d os
          exact Calls.regrown_of (l6Fits B p (some ⟨kb, ko, none⟩) pc T1 (c : Int) hk1.1 hk1.2 (by omega) hci h6 HSU.out _ (SK.on HP.out (Keep.of (below_over hwW (below_over hbV (below_regrown V d os))))))
        refine wp_region_quiet_below (by kernel_rfl) (by kernel_rfl) ?_
        repeat (go_big_quiet_step (fail))
        go_big_quiet_step ((go_at_call 41; exact q0 _ _))
        repeat (go_big_quiet_step (fail))
        refine wpQuiet_nil ?_
        intro _ hw'
        obtain ⟨⟨dq, osq⟩, hw''⟩ := hw'
        subst hw''
        have hbX : Below V.heap.size V (Sort.grow (redrawn V dq) osq) := below_regrown V dq osq
        have hX : Below W.heap.size W (Sort.grow (redrawn V dq) osq) := below_over hbV hbX
        clear e0 e1 e2 e3 e4 e5 q0 i1 i2 p0 t0 t1 dV hk1
        generalize Sort.grow (redrawn V dq) osq = X at *
        cases hf1 : fitB p T1 (c : Int)
        · have HEF : Hid (effF p gives (15, (c : Int), (f : Int)) (st, lo) = none) := by
            show _ = _
            rw [show effF p gives (15, (c : Int), (f : Int)) (st, lo) = (fldF p (c : Int) (f : Int)).bind fun t => tpF p (st, lo) [(c : Int)] [t] from by simp [effF]]
            rw [HFL.out, Option.bind_some, tp_one, if_pos]
            right
            rw [← HQ1.out, hf1]
          have RA := R0.out.on hX
          obtain ⟨r0, q0⟩ := RA.g0
          obtain ⟨r1, q1⟩ := RA.g1
          have R5 := (RA.s0 (.slice none 0 0)).s1 (.slice none 0 0)
          obtain ⟨e0, _⟩ := R5.g0
          obtain ⟨e1, _⟩ := R5.g1
          have CNX : Cells X W.heap.size [.slice none 0 0, .slice none 0 0] := CN.out.on hbX
          obtain ⟨n0, _⟩ := CNX.g0
          obtain ⟨n1, _⟩ := CNX.g1
          have HB : Hid (Below w.heap.size w ((X.setCell ⟨w.heap.size + 1 + 1 + 1, 0, none⟩ (.slice none 0 0)).setCell ⟨w.heap.size + 1 + 1 + 1, 1, none⟩ (.slice none 0 0))) := ((below_over hwW hX).setCell (p := ⟨w.heap.size + 1 + 1 + 1, 0, none⟩) (by simp; omega) _).setCell (p := ⟨w.heap.size + 1 + 1 + 1, 1, none⟩) (by simp; omega) _
          clear RA R5 CNX 
          go_wp2
          refine bodyPost_ret (v := .tuple #[.agg #[.slice none 0 0, .slice none 0 0], .bool false]) (by simp [results, Tryz.results21, go_sem, e0, e1]) rfl ?_
          exact ⟨.inr ⟨HEF.out, none, 0, 0, none, 0, 0, rfl⟩, HB.out⟩
        · have HWC : Hid (∀ y, At1 W (w.heap.size + 1 + 1 + 1) y → y.cell? ⟨w.heap.size + 1 + 1, 0, none⟩ = some (.slice z1 st.length c1) ∧ y.cell? ⟨w.heap.size + 1 + 1, 1, none⟩ = some (.slice z2 lo.length c2) ∧ y.cell? ⟨w.heap.size + 1, 1, none⟩ = some (.int .i64 c) ∧ y.cell? ⟨w.heap.size + 1, 2, none⟩ = some (.int .i64 f) ∧ y.cell? ⟨w.heap.size, 0, none⟩ = some (.slice (some ⟨kb, ko, none⟩) p.length pc) ∧ y.cell? ⟨kb, ko + c * 3 + 1, none⟩ = some (.slice (some ⟨b2, o2, none⟩) C.fields.length y1) ∧ y.cell? ⟨b2, o2 + f, none⟩ = some (.int .i64 x)) := fun y hy => ⟨hy _ _ _ (by omega) (by have := HZ.out; omega) C2.out.g0.1, hy _ _ _ (by omega) (by have := HZ.out; omega) C2.out.g1.1, hy _ _ _ (by omega) (by have := HZ.out; omega) C1.out.g1.1, hy _ _ _ (by omega) (by have := HZ.out; omega) C1.out.g2.1, hy _ _ _ (by omega) (by have := HZ.out; omega) C0.out.g0.1, hy _ _ _ (by omega) (by have := HZ.out; omega) ((hwW.cell l0).trans HD1.out), hy _ _ _ (by omega) (by have := HZ.out; omega) ((hwW.cell l2).trans HA2.out)⟩
          have HEF : Hid (effF p gives (15, (c : Int), (f : Int)) (st, lo) = putF lo (st.take (st.length - 1)) [x]) := by
            show _ = _
            rw [show effF p gives (15, (c : Int), (f : Int)) (st, lo) = (fldF p (c : Int) (f : Int)).bind fun t => tpF p (st, lo) [(c : Int)] [t] from by simp [effF]]
            rw [HFL.out, Option.bind_some, tp_one, if_neg]
            rw [← HQ1.out, hf1]
            rintro (h | h)
            · exact hn h
            · simp at h
          have hwr : wrap64 ((st.length : Int) - 1) = ((st.length - 1 : Nat) : Int) := by unfold wrap64; omega
          have hW0 : Below W.heap.size W X.drew := hX.drew
          go_wp2_with fail
          refine wp_region_held_drew (S := At1 W (w.heap.size + 1 + 1 + 1)) (by kernel_rfl) (At1.of hW0) (fun hHeld => ?_)
          generalize X.drew = X0 at hW0 hHeld ⊢
          refine wpAnyH_take (i := 0) (v := ?_) rfl (by kernel_rfl) (by kernel_rfl) (by kernel_rfl) (fun _ _ _ h => h) (Or.inl ⟨by rfl, ?_⟩) hHeld ?_
          rotate_left 1
          · intro w' hSw
            obtain ⟨s0, s1, s2, s3, s4, s5, s6⟩ := HWC.out _ hSw
            go_simp
            try with_reducible rfl
          simp only [Act.put, List.getElem_toArray, List.getElem_cons_zero]
          refine wpAnyH_take (i := 1) (v := ?_) rfl (by kernel_rfl) (by kernel_rfl) (by kernel_rfl) (fun _ _ _ h => h) (Or.inl ⟨by rfl, ?_⟩) hHeld ?_
          rotate_left 1
          · intro w' hSw
            obtain ⟨s0, s1, s2, s3, s4, s5, s6⟩ := HWC.out _ hSw
            go_simp
            try with_reducible rfl
          simp only [Act.put, List.getElem_toArray, List.getElem_cons_zero, List.getElem_cons_succ]
          refine wpAnyH_take (i := 2) (v := ?_) rfl (by kernel_rfl) (by kernel_rfl) (by kernel_rfl) (fun _ _ _ h => h) (Or.inl ⟨by rfl, ?_⟩) hHeld ?_
          rotate_left 1
          · intro w' hSw
            obtain ⟨s0, s1, s2, s3, s4, s5, s6⟩ := HWC.out _ hSw
            go_simp
            try with_reducible rfl
          simp only [Act.put, List.getElem_toArray, List.getElem_cons_zero, List.getElem_cons_succ]
          refine wpAnyH_take (i := 3) (v := ?_) rfl (by kernel_rfl) (by kernel_rfl) (by kernel_rfl) (fun _ _ _ h => h) (Or.inl ⟨by rfl, ?_⟩) hHeld ?_
          rotate_left 1
          · intro w' hSw
            obtain ⟨s0, s1, s2, s3, s4, s5, s6⟩ := HWC.out _ hSw
            go_simp
            try with_reducible rfl
          simp only [Act.put, List.getElem_toArray, List.getElem_cons_zero, List.getElem_cons_succ]
          refine wpAnyH_take (i := 4) (v := ?_) rfl (by kernel_rfl) (by kernel_rfl) (by kernel_rfl) (fun _ _ _ h => h) (Or.inl ⟨by rfl, ?_⟩) hHeld ?_
          rotate_left 1
          · intro w' hSw
            obtain ⟨s0, s1, s2, s3, s4, s5, s6⟩ := HWC.out _ hSw
            go_simp
            try with_reducible rfl
          simp only [Act.put, List.getElem_toArray, List.getElem_cons_zero, List.getElem_cons_succ]
          refine wpAnyH_take (i := 5) (v := ?_) rfl (by kernel_rfl) (by kernel_rfl) (by kernel_rfl) (fun _ _ _ h => h) (Or.inl ⟨by rfl, ?_⟩) hHeld ?_
          rotate_left 1
          · intro w' hSw
            obtain ⟨s0, s1, s2, s3, s4, s5, s6⟩ := HWC.out _ hSw
            go_simp
            try with_reducible rfl
          simp only [Act.put, List.getElem_toArray, List.getElem_cons_zero, List.getElem_cons_succ]
          refine wpAnyH_take (i := 6) (v := ?_) rfl (by kernel_rfl) (by kernel_rfl) (by kernel_rfl) (fun _ _ _ h => h) (Or.inl ⟨by rfl, ?_⟩) hHeld ?_
          rotate_left 1
          · intro w' hSw
            obtain ⟨s0, s1, s2, s3, s4, s5, s6⟩ := HWC.out _ hSw
            go_simp
            try with_reducible rfl
          simp only [Act.put, List.getElem_toArray, List.getElem_cons_zero, List.getElem_cons_succ]
          refine wpAnyH_take (i := 7) (v := ?_) rfl (by kernel_rfl) (by kernel_rfl) (by kernel_rfl) (fun _ _ _ h => h) (Or.inl ⟨by rfl, ?_⟩) hHeld ?_
          rotate_left 1
          · intro w' hSw
            obtain ⟨s0, s1, s2, s3, s4, s5, s6⟩ := HWC.out _ hSw
            go_simp
            try with_reducible rfl
          simp only [Act.put, List.getElem_toArray, List.getElem_cons_zero, List.getElem_cons_succ]
          refine wpAnyH_take (i := 8) (v := ?_) rfl (by kernel_rfl) (by kernel_rfl) (by kernel_rfl) (fun _ _ _ h => h) (Or.inl ⟨by rfl, ?_⟩) hHeld ?_
          rotate_left 1
          · intro w' hSw
            obtain ⟨s0, s1, s2, s3, s4, s5, s6⟩ := HWC.out _ hSw
            go_simp
            try with_reducible rfl
          simp only [Act.put, List.getElem_toArray, List.getElem_cons_zero, List.getElem_cons_succ]
          refine wpAnyH_take (i := 9) (v := ?_) rfl (by kernel_rfl) (by kernel_rfl) (by kernel_rfl) (fun _ _ _ h => h) (Or.inl ⟨by rfl, ?_⟩) hHeld ?_
          rotate_left 1
          · intro w' hSw
            obtain ⟨s0, s1, s2, s3, s4, s5, s6⟩ := HWC.out _ hSw
            go_simp
            try with_reducible rfl
          simp only [Act.put, List.getElem_toArray, List.getElem_cons_zero, List.getElem_cons_succ]
          refine wpAnyH_take (i := 10) (v := ?_) rfl (by kernel_rfl) (by kernel_rfl) (by kernel_rfl) (fun _ _ _ h => h) (Or.inl ⟨by rfl, ?_⟩) hHeld ?_
          rotate_left 1
          · intro w' hSw
            obtain ⟨s0, s1, s2, s3, s4, s5, s6⟩ := HWC.out _ hSw
            go_simp
            try with_reducible rfl
          simp only [Act.put, List.getElem_toArray, List.getElem_cons_zero, List.getElem_cons_succ]
          refine wpAnyH_take (i := 11) (v := ?_) rfl (by kernel_rfl) (by kernel_rfl) (by kernel_rfl) (fun _ _ _ h => h) (Or.inl ⟨by rfl, ?_⟩) hHeld ?_
          rotate_left 1
          · intro w' hSw
            obtain ⟨s0, s1, s2, s3, s4, s5, s6⟩ := HWC.out _ hSw
            go_simp
            try with_reducible rfl
          simp only [Act.put, List.getElem_toArray, List.getElem_cons_zero, List.getElem_cons_succ]
          refine wpAnyH_take (i := 12) (v := ?_) rfl (by kernel_rfl) (by kernel_rfl) (by kernel_rfl) (fun _ _ _ h => h) (Or.inl ⟨by rfl, ?_⟩) hHeld ?_
          rotate_left 1
          · intro w' hSw
            obtain ⟨s0, s1, s2, s3, s4, s5, s6⟩ := HWC.out _ hSw
            go_simp
            try with_reducible rfl
          simp only [Act.put, List.getElem_toArray, List.getElem_cons_zero, List.getElem_cons_succ]
          refine wpAnyH_take (i := 13) (v := ?_) rfl (by kernel_rfl) (by kernel_rfl) (by kernel_rfl) (fun _ _ _ h => h) (Or.inl ⟨by rfl, ?_⟩) hHeld ?_
          rotate_left 1
          · intro w' hSw
            obtain ⟨s0, s1, s2, s3, s4, s5, s6⟩ := HWC.out _ hSw
            go_simp
            try with_reducible rfl
          simp only [Act.put, List.getElem_toArray, List.getElem_cons_zero, List.getElem_cons_succ]
          refine wpAnyH_ready (rs := [14]) (by kernel_rfl) (by simp) ?_
          refine AllReadyH.cons rfl (fun K hK => ?_) AllReadyH.nil
          go_simp
          refine hK.out _ _ (At1.of (hW0.alloc hW0.size _)) (fun hHeld => ?_)
          clear hK K
          have HKR : Hid (SI true B (X0.alloc (.cells #[.int .i64 x] 2)) (.slice (some ⟨X0.heap.size, 0, none⟩) 1 1) [x]) := by
            have h := SI.weak (grow_lit1 X0 x).gint.si (Nat.le_trans HBW.out (Nat.le_trans hwW.size hW0.size))
            exact h
          have hhY : Below W.heap.size W (X0.alloc (.cells #[.int .i64 x] 2)) := (hW0.alloc hW0.size _)
          have HKE : Hid (st.length - 1 ≤ st.length) := Nat.sub_le _ _
          refine wpAnyH_ready (rs := [15]) (by kernel_rfl) (by simp) ?_
          refine AllReadyH.cons rfl (fun K hK => ?_) AllReadyH.nil
          go_simp
          rw [show IntKind.i64.wrap ((st.length : Int) - 1) = ((st.length - 1 : Nat) : Int) from wrapSub (d := 1) (by omega) (by have := HST.out; omega)]
          refine (l7Put_at B z1 z2 c1 c2 st lo (by have := HST.out; omega) (by have := HST.out; omega) hc1 (st.length - 1) HKE.out 1 [x] (by simp) (X0.alloc (.cells #[.int .i64 x] 2)) (SI.on HS.out (Keep.of (below_over hwW hhY))) (SI.on HL.out (Keep.of (below_over hwW hhY))) (some ⟨X0.heap.size, 0, none⟩) HKR.out).mono ?_
          rintro e w5 ⟨x1, y1, x2, y2, rfl, hown, hb5⟩
          have hW5 : Below W.heap.size W w5 := below_over hhY hb5
          have RA := R0.out.on hW5
          obtain ⟨r0, q0⟩ := RA.g0
          obtain ⟨r1, q1⟩ := RA.g1
          obtain ⟨LL, hLL⟩ : ∃ LL, LL = (st.take (st.length - 1) ++ [x]).length := ⟨_, rfl⟩
          rw [← hLL] at hown
          rw [← hLL]
          have HLL : Hid (LL = (st.take (st.length - 1) ++ [x]).length) := hLL
          have HOW : Hid (OwnS w.heap.size ((w5.setCell ⟨w.heap.size + 1 + 1 + 1, 0, none⟩ (.slice x1 LL y1)).setCell ⟨w.heap.size + 1 + 1 + 1, 1, none⟩ (.slice x2 lo.length y2)) (.slice x1 LL y1) (.slice x2 lo.length y2) (st.take (st.length - 1) ++ [x], lo)) := own_cell2 hown (by have := HZ.out; have := hhY.size; omega) (by have := HZ.out; have := hhY.size; omega)
          have HBE : Hid (Below w.heap.size w ((w5.setCell ⟨w.heap.size + 1 + 1 + 1, 0, none⟩ (.slice x1 LL y1)).setCell ⟨w.heap.size + 1 + 1 + 1, 1, none⟩ (.slice x2 lo.length y2))) := ((below_over hwW hW5).setCell (p := ⟨w.heap.size + 1 + 1 + 1, 0, none⟩) (by simp; omega) _).setCell (p := ⟨w.heap.size + 1 + 1 + 1, 1, none⟩) (by simp; omega) _
          have R5 := (RA.s0 (.slice x1 LL y1)).s1 (.slice x2 lo.length y2)
          obtain ⟨e0, _⟩ := R5.g0
          obtain ⟨e1, _⟩ := R5.g1
          clear RA R5 hown hLL hb5 hhY 
          dsimp only
          refine hK.out _ _ (At1.of hW5) (fun hHeld => ?_)
          clear hK K
          refine wpAnyH_take (i := 16) (v := ?_) rfl (by kernel_rfl) (by kernel_rfl) (by kernel_rfl) (fun _ _ _ h => h) (Or.inl ⟨by rfl, ?_⟩) hHeld ?_
          rotate_left 1
          · intro w' hSw
            obtain ⟨s0, s1, s2, s3, s4, s5, s6⟩ := HWC.out _ hSw
            go_simp
            try with_reducible rfl
          simp only [Act.put, List.getElem_toArray, List.getElem_cons_zero, List.getElem_cons_succ]
          refine wpAnyH_take (i := 17) (v := ?_) rfl (by kernel_rfl) (by kernel_rfl) (by kernel_rfl) (fun _ _ _ h => h) (Or.inl ⟨by rfl, ?_⟩) hHeld ?_
          rotate_left 1
          · intro w' hSw
            obtain ⟨s0, s1, s2, s3, s4, s5, s6⟩ := HWC.out _ hSw
            go_simp
            try with_reducible rfl
          simp only [Act.put, List.getElem_toArray, List.getElem_cons_zero, List.getElem_cons_succ]
          refine wpAnyH_ready (rs := [18]) (by kernel_rfl) (by simp) ?_
          refine AllReadyH.cons rfl (fun K hK => ?_) AllReadyH.nil
          go_simp
          refine hK.out _ _ (((At1.of hW5).set _ _).set _ _) (fun hHeld => ?_)
          clear hK K
          refine wpAnyH_ready (rs := [19]) (by kernel_rfl) (by simp) ?_
          refine AllReadyH.cons rfl (fun K hK => ?_) AllReadyH.nil
          go_simp
          refine hK.out _ _ (((At1.of hW5).set _ _).set _ _) (fun hHeld => ?_)
          clear hK K
          refine wpAnyH_done (by kernel_rfl) ?_ _
          go_wp2
          refine bodyPost_ret (v := .tuple #[.agg #[.slice x1 LL y1, .slice x2 lo.length y2], .bool (decide (LL ≤ 8))]) (by simp [results, Tryz.results21, go_sem, e0, e1]) rfl ?_
          have hLL := HLL.out
          subst hLL
          exact l7_end HEF.out HOW.out HBE.out
end Pg
end Go.Proofs.YtfdlljdljefkfaaGreatDoor

/- Contracts of the specification's effect of a step (Sf2). -/
import Derived.Test.YtfdlljdljefkfaaGreatDoorJSf0
namespace Go.Proofs.YtfdlljdljefkfaaGreatDoor
namespace Pg
open Go.ChangeShapes Go.WideShapes Go.ChangeAt Go.RowKit St

set_option maxRecDepth 100000 in
set_option maxHeartbeats 4000000 in
theorem l7_4 (B : Nat) (p : Prg) (hok' : okP p = true) (hsp : SmallP p) (w : World) (pa : Option Addr) (pc : Nat) (hp : SK front B w (.slice pa p.length pc) p) (a b gives : Int) (z1 z2 : Option Addr) (c1 c2 : Nat) (st lo : List Int) (hst : okSt p (st, lo)) (hc1 : st.length ≤ c1) (hs : SI true B w (.slice z1 st.length c1) st) (hl : SI true B w (.slice z2 lo.length c2) lo) :
    Calls Tryz.prog 21 #[.agg #[.slice pa p.length pc], .int .i64 gives, .agg #[.int .i64 4, .int .i64 a, .int .i64 b], .agg #[.slice z1 st.length c1, .slice z2 lo.length c2]] w fun e w' => L7Post (effF p gives (4, a, b) (st, lo)) w e w' := by
  have HOKP : Hid (okP p = true) := hok'
  have HSP : Hid (SmallP p) := hsp
  have h6 : p.length ≤ 6 := (okP_len hok').2
  have hp0 : 0 < p.length := (okP_len hok').1
  have HSU : Hid (SupOk p p.length) := (ok_sup hok').sup
  have HP : Hid (SK front B w (.slice pa p.length pc) p) := hp
  have HS : Hid (SI true B w (.slice z1 st.length c1) st) := hs
  have HL : Hid (SI true B w (.slice z2 lo.length c2) lo) := hl
  obtain ⟨hst8, hlo8, hkst, hklo⟩ := okSt_iff.1 hst
  dsimp only at hst8 hlo8 hkst hklo
  have HST : Hid (st.length ≤ 8 ∧ lo.length = 8) := ⟨hst8, hlo8⟩
  have HKS : Hid (st.all (kindB p.length) = true ∧ lo.all (kindB p.length) = true) := ⟨hkst, hklo⟩
  have HBW : Hid (B ≤ w.heap.size) := si_base hl (by omega)
  obtain ⟨T1, HT1⟩ : ∃ T, Hid ((if st.length < 1 then (-3 : Int) else topF st 1) = T) := ⟨_, rfl⟩
  obtain ⟨T2, HT2⟩ : ∃ T, Hid ((if st.length < 2 then (-3 : Int) else topF st 2) = T) := ⟨_, rfl⟩
  clear hok' hsp hp hs hl hst hlo8 hkst hklo
  obtain ⟨W, hW⟩ : ∃ W, W = (((w.alloc (.cells #[.slice pa p.length pc] 37)).alloc (.cells #[.int .i64 4, .int .i64 a, .int .i64 b] 39)).alloc (.cells #[.slice z1 st.length c1, .slice z2 lo.length c2] 32)).alloc (.cells #[.slice none 0 0, .slice none 0 0] 32) := ⟨_, rfl⟩
  have hwW : Below w.heap.size w W := by rw [hW]; exact ((((Below.refl _ _).alloc (Nat.le_refl _) _).alloc (by simp) _).alloc (by simp; omega) _).alloc (by simp; omega) _
  have C0 : Hid (Cells W w.heap.size [.slice pa p.length pc]) := by rw [hW]; exact (((Cells.new w _ rfl _ _).alloc _).alloc _).alloc _
  have C1 : Hid (Cells W (w.heap.size + 1) [.int .i64 4, .int .i64 a, .int .i64 b]) := by rw [hW]; exact ((Cells.new (w.alloc _) _ (by simp) _ _).alloc _).alloc _
  have C2 : Hid (Cells W (w.heap.size + 1 + 1) [.slice z1 st.length c1, .slice z2 lo.length c2]) := by rw [hW]; exact (Cells.new ((w.alloc _).alloc _) _ (by simp) _ _).alloc _
  have R0 : Hid (Cells W (w.heap.size + 1 + 1 + 1) [.slice none 0 0, .slice none 0 0]) := by rw [hW]; exact Cells.new (((w.alloc _).alloc _).alloc _) _ (by simp) _ _
  have HZ : Hid (W.heap.size = w.heap.size + 1 + 1 + 1 + 1) := by rw [hW]; show _ = _; simp
  have CN : Hid (Cells (W.alloc (.cells #[.slice none 0 0, .slice none 0 0] 32)) W.heap.size [.slice none 0 0, .slice none 0 0]) := Cells.new W _ rfl _ _
  have hbV : Below W.heap.size W (W.alloc (.cells #[.slice none 0 0, .slice none 0 0] 32)) := (Below.refl _ _).alloc (Nat.le_refl _) _
  go_enter Tryz.func21, Tryz.ntmps21
  go_wp2_with fail
  rw [← hW]
  clear hW
  refine (l7Back_at B z1 c1 st (by omega) 1 (by omega) (by omega) W (SI.on HS.out (Keep.of hwW))).mono ?_
  rw [HT1.out]
  rintro e w1 ⟨rfl, rfl⟩
  obtain ⟨t0, _⟩ := C2.out.g0
  go_wp2_with fail
  refine (l7Back_at B z1 c1 st (by omega) 2 (by omega) (by omega) W (SI.on HS.out (Keep.of hwW))).mono ?_
  rw [HT2.out]
  rintro e w1 ⟨rfl, rfl⟩
  clear t0
  obtain ⟨i0, _⟩ := (C1.out.on hbV).g0
  obtain ⟨i1, _⟩ := (C1.out.on hbV).g1
  obtain ⟨i2, _⟩ := (C1.out.on hbV).g2
  obtain ⟨t0, _⟩ := (C2.out.on hbV).g0
  obtain ⟨t1, _⟩ := (C2.out.on hbV).g1
  obtain ⟨p0, _⟩ := (C0.out.on hbV).g0
  by_cases hn : st.length < 2
  · have HEF : Hid (effF p gives (4, a, b) (st, lo) = none) := by
      show _ = _
      rw [show effF p gives (4, a, b) (st, lo) = tpF p (st, lo) [-1, -1] [-1] from by simp [effF]]
      rw [tp_two, if_pos (.inl hn)]
    have RA := R0.out.on hbV
    obtain ⟨r0, q0⟩ := RA.g0
    obtain ⟨r1, q1⟩ := RA.g1
    have R5 := (RA.s0 (.slice none 0 0)).s1 (.slice none 0 0)
    obtain ⟨e0, _⟩ := R5.g0
    obtain ⟨e1, _⟩ := R5.g1
    have CNX : Cells (W.alloc (.cells #[.slice none 0 0, .slice none 0 0] 32)) W.heap.size [.slice none 0 0, .slice none 0 0] := CN.out.on (Below.refl _ _)
    obtain ⟨n0, _⟩ := CNX.g0
    obtain ⟨n1, _⟩ := CNX.g1
    have HB : Hid (Below w.heap.size w (((W.alloc (.cells #[.slice none 0 0, .slice none 0 0] 32)).setCell ⟨w.heap.size + 1 + 1 + 1, 0, none⟩ (.slice none 0 0)).setCell ⟨w.heap.size + 1 + 1 + 1, 1, none⟩ (.slice none 0 0))) := ((below_over hwW hbV).setCell (p := ⟨w.heap.size + 1 + 1 + 1, 0, none⟩) (by simp; omega) _).setCell (p := ⟨w.heap.size + 1 + 1 + 1, 1, none⟩) (by simp; omega) _
    clear RA R5 CNX 
    go_wp2
    refine bodyPost_ret (v := .tuple #[.agg #[.slice none 0 0, .slice none 0 0], .bool false]) (by simp [results, Tryz.results21, go_sem, e0, e1]) rfl ?_
    exact ⟨.inr ⟨HEF.out, none, 0, 0, none, 0, 0, rfl⟩, HB.out⟩
  · have HQ1 : Hid (T1 = topF st 1) := by show _ = _; rw [← HT1.out, if_neg (by omega)]
    have HQ2 : Hid (T2 = topF st 2) := by show _ = _; rw [← HT2.out, if_neg (by omega)]
    by_cases h1 : T1 = -1
    · by_cases h2 : T2 = -1
      · have HEF : Hid (effF p gives (4, a, b) (st, lo) = putF lo (st.take (st.length - 2)) [-1]) := by
          show _ = _
          rw [show effF p gives (4, a, b) (st, lo) = tpF p (st, lo) [-1, -1] [-1] from by simp [effF]]
          rw [tp_two, if_neg]
          rw [fit_m1, fit_m1, ← HQ1.out, ← HQ2.out, h1, h2]
          rintro (h | h)
          · exact hn h
          · simp at h
        have hwr : wrap64 ((st.length : Int) - 2) = ((st.length - 2 : Nat) : Int) := by unfold wrap64; omega
        have HKR : Hid (SI true B ((W.alloc (.cells #[.slice none 0 0, .slice none 0 0] 32)).alloc (.cells #[.int .i64 (-1)] 2)) (.slice (some ⟨W.heap.size + 1, 0, none⟩) 1 1) [-1]) := by
          have h := SI.weak (grow_lit1 (W.alloc (.cells #[.slice none 0 0, .slice none 0 0] 32)) (-1)).gint.si (Nat.le_trans HBW.out (Nat.le_trans hwW.size hbV.size))
          show SI _ _ _ _ _; simpa using h
        have hhY : Below W.heap.size W ((W.alloc (.cells #[.slice none 0 0, .slice none 0 0] 32)).alloc (.cells #[.int .i64 (-1)] 2)) := (hbV.alloc hbV.size _)
        have HKE : Hid (st.length - 2 ≤ st.length) := Nat.sub_le _ _
        go_wp2_with fail
        rw [show ((st.length : Int) - 2) = ((st.length - 2 : Nat) : Int) from by omega]
        refine (l7Put_at B z1 z2 c1 c2 st lo (by have := HST.out; omega) (by have := HST.out; omega) hc1 (st.length - 2) HKE.out 1 [-1] (by simp) ((W.alloc (.cells #[.slice none 0 0, .slice none 0 0] 32)).alloc (.cells #[.int .i64 (-1)] 2)) (SI.on HS.out (Keep.of (below_over hwW hhY))) (SI.on HL.out (Keep.of (below_over hwW hhY))) (some ⟨W.heap.size + 1, 0, none⟩) HKR.out).mono ?_
        rintro e w5 ⟨x1, y1, x2, y2, rfl, hown, hb5⟩
        have hW5 : Below W.heap.size W w5 := below_over hhY hb5
        have RA := R0.out.on hW5
        obtain ⟨r0, q0⟩ := RA.g0
        obtain ⟨r1, q1⟩ := RA.g1
        obtain ⟨LL, hLL⟩ : ∃ LL, LL = (st.take (st.length - 2) ++ [-1]).length := ⟨_, rfl⟩
        rw [← hLL] at hown
        rw [← hLL]
        have HLL : Hid (LL = (st.take (st.length - 2) ++ [-1]).length) := hLL
        have HOW : Hid (OwnS w.heap.size ((w5.setCell ⟨w.heap.size + 1 + 1 + 1, 0, none⟩ (.slice x1 LL y1)).setCell ⟨w.heap.size + 1 + 1 + 1, 1, none⟩ (.slice x2 lo.length y2)) (.slice x1 LL y1) (.slice x2 lo.length y2) (st.take (st.length - 2) ++ [-1], lo)) := own_cell2 hown (by have := HZ.out; have := hhY.size; omega) (by have := HZ.out; have := hhY.size; omega)
        have HBE : Hid (Below w.heap.size w ((w5.setCell ⟨w.heap.size + 1 + 1 + 1, 0, none⟩ (.slice x1 LL y1)).setCell ⟨w.heap.size + 1 + 1 + 1, 1, none⟩ (.slice x2 lo.length y2))) := ((below_over hwW hW5).setCell (p := ⟨w.heap.size + 1 + 1 + 1, 0, none⟩) (by simp; omega) _).setCell (p := ⟨w.heap.size + 1 + 1 + 1, 1, none⟩) (by simp; omega) _
        have R5 := (RA.s0 (.slice x1 LL y1)).s1 (.slice x2 lo.length y2)
        obtain ⟨e0, _⟩ := R5.g0
        obtain ⟨e1, _⟩ := R5.g1
        clear RA R5 hown hLL hb5 hhY 
        go_wp2
        refine bodyPost_ret (v := .tuple #[.agg #[.slice x1 LL y1, .slice x2 lo.length y2], .bool (decide (LL ≤ 8))]) (by simp [results, Tryz.results21, go_sem, e0, e1]) rfl ?_
        have hLL := HLL.out
        subst hLL
        exact l7_end HEF.out HOW.out HBE.out
      · have hbh2e : (T2 == -1) = false := by simp [h2]
        have hbh2n : (T2 != -1) = true := by simp [h2]
        have HEF : Hid (effF p gives (4, a, b) (st, lo) = none) := by
          show _ = _
          rw [show effF p gives (4, a, b) (st, lo) = tpF p (st, lo) [-1, -1] [-1] from by simp [effF]]
          rw [tp_two, if_pos]
          right
          rw [fit_m1, fit_m1, ← HQ2.out, decide_eq_false h2, Bool.and_false]
        have RA := R0.out.on hbV
        obtain ⟨r0, q0⟩ := RA.g0
        obtain ⟨r1, q1⟩ := RA.g1
        have R5 := (RA.s0 (.slice none 0 0)).s1 (.slice none 0 0)
        obtain ⟨e0, _⟩ := R5.g0
        obtain ⟨e1, _⟩ := R5.g1
        have CNX : Cells (W.alloc (.cells #[.slice none 0 0, .slice none 0 0] 32)) W.heap.size [.slice none 0 0, .slice none 0 0] := CN.out.on (Below.refl _ _)
        obtain ⟨n0, _⟩ := CNX.g0
        obtain ⟨n1, _⟩ := CNX.g1
        have HB : Hid (Below w.heap.size w (((W.alloc (.cells #[.slice none 0 0, .slice none 0 0] 32)).setCell ⟨w.heap.size + 1 + 1 + 1, 0, none⟩ (.slice none 0 0)).setCell ⟨w.heap.size + 1 + 1 + 1, 1, none⟩ (.slice none 0 0))) := ((below_over hwW hbV).setCell (p := ⟨w.heap.size + 1 + 1 + 1, 0, none⟩) (by simp; omega) _).setCell (p := ⟨w.heap.size + 1 + 1 + 1, 1, none⟩) (by simp; omega) _
        clear RA R5 CNX 
        go_wp2
        refine bodyPost_ret (v := .tuple #[.agg #[.slice none 0 0, .slice none 0 0], .bool false]) (by simp [results, Tryz.results21, go_sem, e0, e1]) rfl ?_
        exact ⟨.inr ⟨HEF.out, none, 0, 0, none, 0, 0, rfl⟩, HB.out⟩
    · have hbh1e : (T1 == -1) = false := by simp [h1]
      have hbh1n : (T1 != -1) = true := by simp [h1]
      have HEF : Hid (effF p gives (4, a, b) (st, lo) = none) := by
        show _ = _
        rw [show effF p gives (4, a, b) (st, lo) = tpF p (st, lo) [-1, -1] [-1] from by simp [effF]]
        rw [tp_two, if_pos]
        right
        rw [fit_m1, fit_m1, ← HQ1.out, decide_eq_false h1, Bool.false_and]
      have RA := R0.out.on hbV
      obtain ⟨r0, q0⟩ := RA.g0
      obtain ⟨r1, q1⟩ := RA.g1
      have R5 := (RA.s0 (.slice none 0 0)).s1 (.slice none 0 0)
      obtain ⟨e0, _⟩ := R5.g0
      obtain ⟨e1, _⟩ := R5.g1
      have CNX : Cells (W.alloc (.cells #[.slice none 0 0, .slice none 0 0] 32)) W.heap.size [.slice none 0 0, .slice none 0 0] := CN.out.on (Below.refl _ _)
      obtain ⟨n0, _⟩ := CNX.g0
      obtain ⟨n1, _⟩ := CNX.g1
      have HB : Hid (Below w.heap.size w (((W.alloc (.cells #[.slice none 0 0, .slice none 0 0] 32)).setCell ⟨w.heap.size + 1 + 1 + 1, 0, none⟩ (.slice none 0 0)).setCell ⟨w.heap.size + 1 + 1 + 1, 1, none⟩ (.slice none 0 0))) := ((below_over hwW hbV).setCell (p := ⟨w.heap.size + 1 + 1 + 1, 0, none⟩) (by simp; omega) _).setCell (p := ⟨w.heap.size + 1 + 1 + 1, 1, none⟩) (by simp; omega) _
      clear RA R5 CNX 
      go_wp2
      refine bodyPost_ret (v := .tuple #[.agg #[.slice none 0 0, .slice none 0 0], .bool false]) (by simp [results, Tryz.results21, go_sem, e0, e1]) rfl ?_
      exact ⟨.inr ⟨HEF.out, none, 0, 0, none, 0, 0, rfl⟩, HB.out⟩

set_option maxRecDepth 100000 in
set_option maxHeartbeats 4000000 in
theorem l7_5 (B : Nat) (p : Prg) (hok' : okP p = true) (hsp : SmallP p) (w : World) (pa : Option Addr) (pc : Nat) (hp : SK front B w (.slice pa p.length pc) p) (a b gives : Int) (z1 z2 : Option Addr) (c1 c2 : Nat) (st lo : List Int) (hst : okSt p (st, lo)) (hc1 : st.length ≤ c1) (hs : SI true B w (.slice z1 st.length c1) st) (hl : SI true B w (.slice z2 lo.length c2) lo) :
    Calls Tryz.prog 21 #[.agg #[.slice pa p.length pc], .int .i64 gives, .agg #[.int .i64 5, .int .i64 a, .int .i64 b], .agg #[.slice z1 st.length c1, .slice z2 lo.length c2]] w fun e w' => L7Post (effF p gives (5, a, b) (st, lo)) w e w' := by
  have HOKP : Hid (okP p = true) := hok'
  have HSP : Hid (SmallP p) := hsp
  have h6 : p.length ≤ 6 := (okP_len hok').2
  have hp0 : 0 < p.length := (okP_len hok').1
  have HSU : Hid (SupOk p p.length) := (ok_sup hok').sup
  have HP : Hid (SK front B w (.slice pa p.length pc) p) := hp
  have HS : Hid (SI true B w (.slice z1 st.length c1) st) := hs
  have HL : Hid (SI true B w (.slice z2 lo.length c2) lo) := hl
  obtain ⟨hst8, hlo8, hkst, hklo⟩ := okSt_iff.1 hst
  dsimp only at hst8 hlo8 hkst hklo
  have HST : Hid (st.length ≤ 8 ∧ lo.length = 8) := ⟨hst8, hlo8⟩
  have HKS : Hid (st.all (kindB p.length) = true ∧ lo.all (kindB p.length) = true) := ⟨hkst, hklo⟩
  have HBW : Hid (B ≤ w.heap.size) := si_base hl (by omega)
  obtain ⟨T1, HT1⟩ : ∃ T, Hid ((if st.length < 1 then (-3 : Int) else topF st 1) = T) := ⟨_, rfl⟩
  obtain ⟨T2, HT2⟩ : ∃ T, Hid ((if st.length < 2 then (-3 : Int) else topF st 2) = T) := ⟨_, rfl⟩
  clear hok' hsp hp hs hl hst hlo8 hkst hklo
  obtain ⟨W, hW⟩ : ∃ W, W = (((w.alloc (.cells #[.slice pa p.length pc] 37)).alloc (.cells #[.int .i64 5, .int .i64 a, .int .i64 b] 39)).alloc (.cells #[.slice z1 st.length c1, .slice z2 lo.length c2] 32)).alloc (.cells #[.slice none 0 0, .slice none 0 0] 32) := ⟨_, rfl⟩
  have hwW : Below w.heap.size w W := by rw [hW]; exact ((((Below.refl _ _).alloc (Nat.le_refl _) _).alloc (by simp) _).alloc (by simp; omega) _).alloc (by simp; omega) _
  have C0 : Hid (Cells W w.heap.size [.slice pa p.length pc]) := by rw [hW]; exact (((Cells.new w _ rfl _ _).alloc _).alloc _).alloc _
  have C1 : Hid (Cells W (w.heap.size + 1) [.int .i64 5, .int .i64 a, .int .i64 b]) := by rw [hW]; exact ((Cells.new (w.alloc _) _ (by simp) _ _).alloc _).alloc _
  have C2 : Hid (Cells W (w.heap.size + 1 + 1) [.slice z1 st.length c1, .slice z2 lo.length c2]) := by rw [hW]; exact (Cells.new ((w.alloc _).alloc _) _ (by simp) _ _).alloc _
  have R0 : Hid (Cells W (w.heap.size + 1 + 1 + 1) [.slice none 0 0, .slice none 0 0]) := by rw [hW]; exact Cells.new (((w.alloc _).alloc _).alloc _) _ (by simp) _ _
  have HZ : Hid (W.heap.size = w.heap.size + 1 + 1 + 1 + 1) := by rw [hW]; show _ = _; simp
  have CN : Hid (Cells (W.alloc (.cells #[.slice none 0 0, .slice none 0 0] 32)) W.heap.size [.slice none 0 0, .slice none 0 0]) := Cells.new W _ rfl _ _
  have hbV : Below W.heap.size W (W.alloc (.cells #[.slice none 0 0, .slice none 0 0] 32)) := (Below.refl _ _).alloc (Nat.le_refl _) _
  go_enter Tryz.func21, Tryz.ntmps21
  go_wp2_with fail
  rw [← hW]
  clear hW
  refine (l7Back_at B z1 c1 st (by omega) 1 (by omega) (by omega) W (SI.on HS.out (Keep.of hwW))).mono ?_
  rw [HT1.out]
  rintro e w1 ⟨rfl, rfl⟩
  obtain ⟨t0, _⟩ := C2.out.g0
  go_wp2_with fail
  refine (l7Back_at B z1 c1 st (by omega) 2 (by omega) (by omega) W (SI.on HS.out (Keep.of hwW))).mono ?_
  rw [HT2.out]
  rintro e w1 ⟨rfl, rfl⟩
  clear t0
  obtain ⟨i0, _⟩ := (C1.out.on hbV).g0
  obtain ⟨i1, _⟩ := (C1.out.on hbV).g1
  obtain ⟨i2, _⟩ := (C1.out.on hbV).g2
  obtain ⟨t0, _⟩ := (C2.out.on hbV).g0
  obtain ⟨t1, _⟩ := (C2.out.on hbV).g1
  obtain ⟨p0, _⟩ := (C0.out.on hbV).g0
  by_cases hn : st.length < 2
  · have HEF : Hid (effF p gives (5, a, b) (st, lo) = none) := by
      show _ = _
      rw [show effF p gives (5, a, b) (st, lo) = tpF p (st, lo) [-1, -1] [-1] from by simp [effF]]
      rw [tp_two, if_pos (.inl hn)]
    have RA := R0.out.on hbV
    obtain ⟨r0, q0⟩ := RA.g0
    obtain ⟨r1, q1⟩ := RA.g1
    have R5 := (RA.s0 (.slice none 0 0)).s1 (.slice none 0 0)
    obtain ⟨e0, _⟩ := R5.g0
    obtain ⟨e1, _⟩ := R5.g1
    have CNX : Cells (W.alloc (.cells #[.slice none 0 0, .slice none 0 0] 32)) W.heap.size [.slice none 0 0, .slice none 0 0] := CN.out.on (Below.refl _ _)
    obtain ⟨n0, _⟩ := CNX.g0
    obtain ⟨n1, _⟩ := CNX.g1
    have HB : Hid (Below w.heap.size w (((W.alloc (.cells #[.slice none 0 0, .slice none 0 0] 32)).setCell ⟨w.heap.size + 1 + 1 + 1, 0, none⟩ (.slice none 0 0)).setCell ⟨w.heap.size + 1 + 1 + 1, 1, none⟩ (.slice none 0 0))) := ((below_over hwW hbV).setCell (p := ⟨w.heap.size + 1 + 1 + 1, 0, none⟩) (by simp; omega) _).setCell (p := ⟨w.heap.size + 1 + 1 + 1, 1, none⟩) (by simp; omega) _
    clear RA R5 CNX 
    go_wp2
    refine bodyPost_ret (v := .tuple #[.agg #[.slice none 0 0, .slice none 0 0], .bool false]) (by simp [results, Tryz.results21, go_sem, e0, e1]) rfl ?_
    exact ⟨.inr ⟨HEF.out, none, 0, 0, none, 0, 0, rfl⟩, HB.out⟩
  · have HQ1 : Hid (T1 = topF st 1) := by show _ = _; rw [← HT1.out, if_neg (by omega)]
    have HQ2 : Hid (T2 = topF st 2) := by show _ = _; rw [← HT2.out, if_neg (by omega)]
    by_cases h1 : T1 = -1
    · by_cases h2 : T2 = -1
      · have HEF : Hid (effF p gives (5, a, b) (st, lo) = putF lo (st.take (st.length - 2)) [-1]) := by
          show _ = _
          rw [show effF p gives (5, a, b) (st, lo) = tpF p (st, lo) [-1, -1] [-1] from by simp [effF]]
          rw [tp_two, if_neg]
          rw [fit_m1, fit_m1, ← HQ1.out, ← HQ2.out, h1, h2]
          rintro (h | h)
          · exact hn h
          · simp at h
        have hwr : wrap64 ((st.length : Int) - 2) = ((st.length - 2 : Nat) : Int) := by unfold wrap64; omega
        have HKR : Hid (SI true B ((W.alloc (.cells #[.slice none 0 0, .slice none 0 0] 32)).alloc (.cells #[.int .i64 (-1)] 2)) (.slice (some ⟨W.heap.size + 1, 0, none⟩) 1 1) [-1]) := by
          have h := SI.weak (grow_lit1 (W.alloc (.cells #[.slice none 0 0, .slice none 0 0] 32)) (-1)).gint.si (Nat.le_trans HBW.out (Nat.le_trans hwW.size hbV.size))
          show SI _ _ _ _ _; simpa using h
        have hhY : Below W.heap.size W ((W.alloc (.cells #[.slice none 0 0, .slice none 0 0] 32)).alloc (.cells #[.int .i64 (-1)] 2)) := (hbV.alloc hbV.size _)
        have HKE : Hid (st.length - 2 ≤ st.length) := Nat.sub_le _ _
        go_wp2_with fail
        rw [show ((st.length : Int) - 2) = ((st.length - 2 : Nat) : Int) from by omega]
        refine (l7Put_at B z1 z2 c1 c2 st lo (by have := HST.out; omega) (by have := HST.out; omega) hc1 (st.length - 2) HKE.out 1 [-1] (by simp) ((W.alloc (.cells #[.slice none 0 0, .slice none 0 0] 32)).alloc (.cells #[.int .i64 (-1)] 2)) (SI.on HS.out (Keep.of (below_over hwW hhY))) (SI.on HL.out (Keep.of (below_over hwW hhY))) (some ⟨W.heap.size + 1, 0, none⟩) HKR.out).mono ?_
        rintro e w5 ⟨x1, y1, x2, y2, rfl, hown, hb5⟩
        have hW5 : Below W.heap.size W w5 := below_over hhY hb5
        have RA := R0.out.on hW5
        obtain ⟨r0, q0⟩ := RA.g0
        obtain ⟨r1, q1⟩ := RA.g1
        obtain ⟨LL, hLL⟩ : ∃ LL, LL = (st.take (st.length - 2) ++ [-1]).length := ⟨_, rfl⟩
        rw [← hLL] at hown
        rw [← hLL]
        have HLL : Hid (LL = (st.take (st.length - 2) ++ [-1]).length) := hLL
        have HOW : Hid (OwnS w.heap.size ((w5.setCell ⟨w.heap.size + 1 + 1 + 1, 0, none⟩ (.slice x1 LL y1)).setCell ⟨w.heap.size + 1 + 1 + 1, 1, none⟩ (.slice x2 lo.length y2)) (.slice x1 LL y1) (.slice x2 lo.length y2) (st.take (st.length - 2) ++ [-1], lo)) := own_cell2 hown (by have := HZ.out; have := hhY.size; omega) (by have := HZ.out; have := hhY.size; omega)
        have HBE : Hid (Below w.heap.size w ((w5.setCell ⟨w.heap.size + 1 + 1 + 1, 0, none⟩ (.slice x1 LL y1)).setCell ⟨w.heap.size + 1 + 1 + 1, 1, none⟩ (.slice x2 lo.length y2))) := ((below_over hwW hW5).setCell (p := ⟨w.heap.size + 1 + 1 + 1, 0, none⟩) (by simp; omega) _).setCell (p := ⟨w.heap.size + 1 + 1 + 1, 1, none⟩) (by simp; omega) _
        have R5 := (RA.s0 (.slice x1 LL y1)).s1 (.slice x2 lo.length y2)
        obtain ⟨e0, _⟩ := R5.g0
        obtain ⟨e1, _⟩ := R5.g1
        clear RA R5 hown hLL hb5 hhY 
        go_wp2
        refine bodyPost_ret (v := .tuple #[.agg #[.slice x1 LL y1, .slice x2 lo.length y2], .bool (decide (LL ≤ 8))]) (by simp [results, Tryz.results21, go_sem, e0, e1]) rfl ?_
        have hLL := HLL.out
        subst hLL
        exact l7_end HEF.out HOW.out HBE.out
      · have hbh2e : (T2 == -1) = false := by simp [h2]
        have hbh2n : (T2 != -1) = true := by simp [h2]
        have HEF : Hid (effF p gives (5, a, b) (st, lo) = none) := by
          show _ = _
          rw [show effF p gives (5, a, b) (st, lo) = tpF p (st, lo) [-1, -1] [-1] from by simp [effF]]
          rw [tp_two, if_pos]
          right
          rw [fit_m1, fit_m1, ← HQ2.out, decide_eq_false h2, Bool.and_false]
        have RA := R0.out.on hbV
        obtain ⟨r0, q0⟩ := RA.g0
        obtain ⟨r1, q1⟩ := RA.g1
        have R5 := (RA.s0 (.slice none 0 0)).s1 (.slice none 0 0)
        obtain ⟨e0, _⟩ := R5.g0
        obtain ⟨e1, _⟩ := R5.g1
        have CNX : Cells (W.alloc (.cells #[.slice none 0 0, .slice none 0 0] 32)) W.heap.size [.slice none 0 0, .slice none 0 0] := CN.out.on (Below.refl _ _)
        obtain ⟨n0, _⟩ := CNX.g0
        obtain ⟨n1, _⟩ := CNX.g1
        have HB : Hid (Below w.heap.size w (((W.alloc (.cells #[.slice none 0 0, .slice none 0 0] 32)).setCell ⟨w.heap.size + 1 + 1 + 1, 0, none⟩ (.slice none 0 0)).setCell ⟨w.heap.size + 1 + 1 + 1, 1, none⟩ (.slice none 0 0))) := ((below_over hwW hbV).setCell (p := ⟨w.heap.size + 1 + 1 + 1, 0, none⟩) (by simp; omega) _).setCell (p := ⟨w.heap.size + 1 + 1 + 1, 1, none⟩) (by simp; omega) _
        clear RA R5 CNX 
        go_wp2
        refine bodyPost_ret (v := .tuple #[.agg #[.slice none 0 0, .slice none 0 0], .bool false]) (by simp [results, Tryz.results21, go_sem, e0, e1]) rfl ?_
        exact ⟨.inr ⟨HEF.out, none, 0, 0, none, 0, 0, rfl⟩, HB.out⟩
    · have hbh1e : (T1 == -1) = false := by simp [h1]
      have hbh1n : (T1 != -1) = true := by simp [h1]
      have HEF : Hid (effF p gives (5, a, b) (st, lo) = none) := by
        show _ = _
        rw [show effF p gives (5, a, b) (st, lo) = tpF p (st, lo) [-1, -1] [-1] from by simp [effF]]
        rw [tp_two, if_pos]
        right
        rw [fit_m1, fit_m1, ← HQ1.out, decide_eq_false h1, Bool.false_and]
      have RA := R0.out.on hbV
      obtain ⟨r0, q0⟩ := RA.g0
      obtain ⟨r1, q1⟩ := RA.g1
      have R5 := (RA.s0 (.slice none 0 0)).s1 (.slice none 0 0)
      obtain ⟨e0, _⟩ := R5.g0
      obtain ⟨e1, _⟩ := R5.g1
      have CNX : Cells (W.alloc (.cells #[.slice none 0 0, .slice none 0 0] 32)) W.heap.size [.slice none 0 0, .slice none 0 0] := CN.out.on (Below.refl _ _)
      obtain ⟨n0, _⟩ := CNX.g0
      obtain ⟨n1, _⟩ := CNX.g1
      have HB : Hid (Below w.heap.size w (((W.alloc (.cells #[.slice none 0 0, .slice none 0 0] 32)).setCell ⟨w.heap.size + 1 + 1 + 1, 0, none⟩ (.slice none 0 0)).setCell ⟨w.heap.size + 1 + 1 + 1, 1, none⟩ (.slice none 0 0))) := ((below_over hwW hbV).setCell (p := ⟨w.heap.size + 1 + 1 + 1, 0, none⟩) (by simp; omega) _).setCell (p := ⟨w.heap.size + 1 + 1 + 1, 1, none⟩) (by simp; omega) _
      clear RA R5 CNX 
      go_wp2
      refine bodyPost_ret (v := .tuple #[.agg #[.slice none 0 0, .slice none 0 0], .bool false]) (by simp [results, Tryz.results21, go_sem, e0, e1]) rfl ?_
      exact ⟨.inr ⟨HEF.out, none, 0, 0, none, 0, 0, rfl⟩, HB.out⟩

set_option maxRecDepth 100000 in
set_option maxHeartbeats 4000000 in
theorem l7_10 (B : Nat) (p : Prg) (hok' : okP p = true) (hsp : SmallP p) (w : World) (pa : Option Addr) (pc : Nat) (hp : SK front B w (.slice pa p.length pc) p) (a b gives : Int) (z1 z2 : Option Addr) (c1 c2 : Nat) (st lo : List Int) (hst : okSt p (st, lo)) (hc1 : st.length ≤ c1) (hs : SI true B w (.slice z1 st.length c1) st) (hl : SI true B w (.slice z2 lo.length c2) lo) :
    Calls Tryz.prog 21 #[.agg #[.slice pa p.length pc], .int .i64 gives, .agg #[.int .i64 10, .int .i64 a, .int .i64 b], .agg #[.slice z1 st.length c1, .slice z2 lo.length c2]] w fun e w' => L7Post (effF p gives (10, a, b) (st, lo)) w e w' := by
  have HOKP : Hid (okP p = true) := hok'
  have HSP : Hid (SmallP p) := hsp
  have h6 : p.length ≤ 6 := (okP_len hok').2
  have hp0 : 0 < p.length := (okP_len hok').1
  have HSU : Hid (SupOk p p.length) := (ok_sup hok').sup
  have HP : Hid (SK front B w (.slice pa p.length pc) p) := hp
  have HS : Hid (SI true B w (.slice z1 st.length c1) st) := hs
  have HL : Hid (SI true B w (.slice z2 lo.length c2) lo) := hl
  obtain ⟨hst8, hlo8, hkst, hklo⟩ := okSt_iff.1 hst
  dsimp only at hst8 hlo8 hkst hklo
  have HST : Hid (st.length ≤ 8 ∧ lo.length = 8) := ⟨hst8, hlo8⟩
  have HKS : Hid (st.all (kindB p.length) = true ∧ lo.all (kindB p.length) = true) := ⟨hkst, hklo⟩
  have HBW : Hid (B ≤ w.heap.size) := si_base hl (by omega)
  obtain ⟨T1, HT1⟩ : ∃ T, Hid ((if st.length < 1 then (-3 : Int) else topF st 1) = T) := ⟨_, rfl⟩
  obtain ⟨T2, HT2⟩ : ∃ T, Hid ((if st.length < 2 then (-3 : Int) else topF st 2) = T) := ⟨_, rfl⟩
  clear hok' hsp hp hs hl hst hlo8 hkst hklo
  obtain ⟨W, hW⟩ : ∃ W, W = (((w.alloc (.cells #[.slice pa p.length pc] 37)).alloc (.cells #[.int .i64 10, .int .i64 a, .int .i64 b] 39)).alloc (.cells #[.slice z1 st.length c1, .slice z2 lo.length c2] 32)).alloc (.cells #[.slice none 0 0, .slice none 0 0] 32) := ⟨_, rfl⟩
  have hwW : Below w.heap.size w W := by rw [hW]; exact ((((Below.refl _ _).alloc (Nat.le_refl _) _).alloc (by simp) _).alloc (by simp; omega) _).alloc (by simp; omega) _
  have C0 : Hid (Cells W w.heap.size [.slice pa p.length pc]) := by rw [hW]; exact (((Cells.new w _ rfl _ _).alloc _).alloc _).alloc _
  have C1 : Hid (Cells W (w.heap.size + 1) [.int .i64 10, .int .i64 a, .int .i64 b]) := by rw [hW]; exact ((Cells.new (w.alloc _) _ (by simp) _ _).alloc _).alloc _
  have C2 : Hid (Cells W (w.heap.size + 1 + 1) [.slice z1 st.length c1, .slice z2 lo.length c2]) := by rw [hW]; exact (Cells.new ((w.alloc _).alloc _) _ (by simp) _ _).alloc _
  have R0 : Hid (Cells W (w.heap.size + 1 + 1 + 1) [.slice none 0 0, .slice none 0 0]) := by rw [hW]; exact Cells.new (((w.alloc _).alloc _).alloc _) _ (by simp) _ _
  have HZ : Hid (W.heap.size = w.heap.size + 1 + 1 + 1 + 1) := by rw [hW]; show _ = _; simp
  have CN : Hid (Cells (W.alloc (.cells #[.slice none 0 0, .slice none 0 0] 32)) W.heap.size [.slice none 0 0, .slice none 0 0]) := Cells.new W _ rfl _ _
  have hbV : Below W.heap.size W (W.alloc (.cells #[.slice none 0 0, .slice none 0 0] 32)) := (Below.refl _ _).alloc (Nat.le_refl _) _
  go_enter Tryz.func21, Tryz.ntmps21
  go_wp2_with fail
  rw [← hW]
  clear hW
  refine (l7Back_at B z1 c1 st (by omega) 1 (by omega) (by omega) W (SI.on HS.out (Keep.of hwW))).mono ?_
  rw [HT1.out]
  rintro e w1 ⟨rfl, rfl⟩
  obtain ⟨t0, _⟩ := C2.out.g0
  go_wp2_with fail
  refine (l7Back_at B z1 c1 st (by omega) 2 (by omega) (by omega) W (SI.on HS.out (Keep.of hwW))).mono ?_
  rw [HT2.out]
  rintro e w1 ⟨rfl, rfl⟩
  clear t0
  obtain ⟨i0, _⟩ := (C1.out.on hbV).g0
  obtain ⟨i1, _⟩ := (C1.out.on hbV).g1
  obtain ⟨i2, _⟩ := (C1.out.on hbV).g2
  obtain ⟨t0, _⟩ := (C2.out.on hbV).g0
  obtain ⟨t1, _⟩ := (C2.out.on hbV).g1
  obtain ⟨p0, _⟩ := (C0.out.on hbV).g0
  by_cases hn : st.length < 2
  · have HEF : Hid (effF p gives (10, a, b) (st, lo) = none) := by
      show _ = _
      simp only [effF]; simp [hn]
    have RA := R0.out.on hbV
    obtain ⟨r0, q0⟩ := RA.g0
    obtain ⟨r1, q1⟩ := RA.g1
    have R5 := (RA.s0 (.slice none 0 0)).s1 (.slice none 0 0)
    obtain ⟨e0, _⟩ := R5.g0
    obtain ⟨e1, _⟩ := R5.g1
    have CNX : Cells (W.alloc (.cells #[.slice none 0 0, .slice none 0 0] 32)) W.heap.size [.slice none 0 0, .slice none 0 0] := CN.out.on (Below.refl _ _)
    obtain ⟨n0, _⟩ := CNX.g0
    obtain ⟨n1, _⟩ := CNX.g1
    have HB : Hid (Below w.heap.size w (((W.alloc (.cells #[.slice none 0 0, .slice none 0 0] 32)).setCell ⟨w.heap.size + 1 + 1 + 1, 0, none⟩ (.slice none 0 0)).setCell ⟨w.heap.size + 1 + 1 + 1, 1, none⟩ (.slice none 0 0))) := ((below_over hwW hbV).setCell (p := ⟨w.heap.size + 1 + 1 + 1, 0, none⟩) (by simp; omega) _).setCell (p := ⟨w.heap.size + 1 + 1 + 1, 1, none⟩) (by simp; omega) _
    clear RA R5 CNX 
    go_wp2
    refine bodyPost_ret (v := .tuple #[.agg #[.slice none 0 0, .slice none 0 0], .bool false]) (by simp [results, Tryz.results21, go_sem, e0, e1]) rfl ?_
    exact ⟨.inr ⟨HEF.out, none, 0, 0, none, 0, 0, rfl⟩, HB.out⟩
  · have HQ1 : Hid (T1 = topF st 1) := by show _ = _; rw [← HT1.out, if_neg (by omega)]
    have HQ2 : Hid (T2 = topF st 2) := by show _ = _; rw [← HT2.out, if_neg (by omega)]
    have HEF : Hid (effF p gives (10, a, b) (st, lo) = putF lo (st.take (st.length - 2)) [T1, T2]) := by
      show _ = _
      unfold putF
      rw [if_pos (by have := HST.out; simp; omega), HQ1.out, HQ2.out]; simp only [effF]; simp [hn]
    have hwr : wrap64 ((st.length : Int) - 2) = ((st.length - 2 : Nat) : Int) := by unfold wrap64; omega
    have HKR : Hid (SI true B ((W.alloc (.cells #[.slice none 0 0, .slice none 0 0] 32)).alloc (.cells #[.int .i64 T1, .int .i64 T2] 2)) (.slice (some ⟨W.heap.size + 1, 0, none⟩) 2 2) [T1, T2]) := by
      have h := SI.weak (grow_lit2 (W.alloc (.cells #[.slice none 0 0, .slice none 0 0] 32)) T1 T2).gint.si (Nat.le_trans HBW.out (Nat.le_trans hwW.size hbV.size))
      show SI _ _ _ _ _; simpa using h
    have hhY : Below W.heap.size W ((W.alloc (.cells #[.slice none 0 0, .slice none 0 0] 32)).alloc (.cells #[.int .i64 T1, .int .i64 T2] 2)) := (hbV.alloc hbV.size _)
    have HKE : Hid (st.length - 2 ≤ st.length) := Nat.sub_le _ _
    go_wp2_with fail
    rw [show ((st.length : Int) - 2) = ((st.length - 2 : Nat) : Int) from by omega]
    refine (l7Put_at B z1 z2 c1 c2 st lo (by have := HST.out; omega) (by have := HST.out; omega) hc1 (st.length - 2) HKE.out 2 [T1, T2] (by simp) ((W.alloc (.cells #[.slice none 0 0, .slice none 0 0] 32)).alloc (.cells #[.int .i64 T1, .int .i64 T2] 2)) (SI.on HS.out (Keep.of (below_over hwW hhY))) (SI.on HL.out (Keep.of (below_over hwW hhY))) (some ⟨W.heap.size + 1, 0, none⟩) HKR.out).mono ?_
    rintro e w5 ⟨x1, y1, x2, y2, rfl, hown, hb5⟩
    have hW5 : Below W.heap.size W w5 := below_over hhY hb5
    have RA := R0.out.on hW5
    obtain ⟨r0, q0⟩ := RA.g0
    obtain ⟨r1, q1⟩ := RA.g1
    obtain ⟨LL, hLL⟩ : ∃ LL, LL = (st.take (st.length - 2) ++ [T1, T2]).length := ⟨_, rfl⟩
    rw [← hLL] at hown
    rw [← hLL]
    have HLL : Hid (LL = (st.take (st.length - 2) ++ [T1, T2]).length) := hLL
    have HOW : Hid (OwnS w.heap.size ((w5.setCell ⟨w.heap.size + 1 + 1 + 1, 0, none⟩ (.slice x1 LL y1)).setCell ⟨w.heap.size + 1 + 1 + 1, 1, none⟩ (.slice x2 lo.length y2)) (.slice x1 LL y1) (.slice x2 lo.length y2) (st.take (st.length - 2) ++ [T1, T2], lo)) := own_cell2 hown (by have := HZ.out; have := hhY.size; omega) (by have := HZ.out; have := hhY.size; omega)
    have HBE : Hid (Below w.heap.size w ((w5.setCell ⟨w.heap.size + 1 + 1 + 1, 0, none⟩ (.slice x1 LL y1)).setCell ⟨w.heap.size + 1 + 1 + 1, 1, none⟩ (.slice x2 lo.length y2))) := ((below_over hwW hW5).setCell (p := ⟨w.heap.size + 1 + 1 + 1, 0, none⟩) (by simp; omega) _).setCell (p := ⟨w.heap.size + 1 + 1 + 1, 1, none⟩) (by simp; omega) _
    have R5 := (RA.s0 (.slice x1 LL y1)).s1 (.slice x2 lo.length y2)
    obtain ⟨e0, _⟩ := R5.g0
    obtain ⟨e1, _⟩ := R5.g1
    clear RA R5 hown hLL hb5 hhY 
    go_wp2
    refine bodyPost_ret (v := .tuple #[.agg #[.slice x1 LL y1, .slice x2 lo.length y2], .bool (decide (LL ≤ 8))]) (by simp [results, Tryz.results21, go_sem, e0, e1]) rfl ?_
    have hLL := HLL.out
    subst hLL
    exact l7_end HEF.out HOW.out HBE.out
end Pg
end Go.Proofs.YtfdlljdljefkfaaGreatDoor

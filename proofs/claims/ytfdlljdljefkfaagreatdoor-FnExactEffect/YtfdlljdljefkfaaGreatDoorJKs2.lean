/- Contracts of the specification's effect of a step (call, in the effect). -/
import Derived.Test.YtfdlljdljefkfaaGreatDoorJSl0
import Derived.Test.YtfdlljdljefkfaaGreatDoorJSf1
import Derived.Test.YtfdlljdljefkfaaGreatDoorJSf2
import Derived.Test.YtfdlljdljefkfaaGreatDoorJSf3
import Derived.Test.YtfdlljdljefkfaaGreatDoorJSf4
import Derived.Test.YtfdlljdljefkfaaGreatDoorJSf5
import Derived.Test.YtfdlljdljefkfaaGreatDoorJSf6
import Derived.Test.YtfdlljdljefkfaaGreatDoorJSf7
import Derived.Test.YtfdlljdljefkfaaGreatDoorJSf8
import Derived.Test.YtfdlljdljefkfaaGreatDoorJSf9
import Derived.Test.YtfdlljdljefkfaaGreatDoorJSfA
import Derived.Test.YtfdlljdljefkfaaGreatDoorJKs1
import Derived.Lib.QuietBelow
import Derived.BigQuiet
namespace Go.Proofs.YtfdlljdljefkfaaGreatDoor
namespace Pg
open Go.ChangeShapes Go.WideShapes Go.ChangeAt Go.RowKit St

set_option maxRecDepth 100000 in
set_option maxHeartbeats 4000000 in
theorem l7_17 (B : Nat) (p : Prg) (hok' : okP p = true) (hsp : SmallP p) (w : World) (pa : Option Addr) (pc : Nat) (hp : SK front B w (.slice pa p.length pc) p) (a b gives : Int) (ha0 : 0 ≤ a) (z1 z2 : Option Addr) (c1 c2 : Nat) (st lo : List Int) (hst : okSt p (st, lo)) (hc1 : st.length ≤ c1) (hs : SI true B w (.slice z1 st.length c1) st) (hl : SI true B w (.slice z2 lo.length c2) lo) :
    Calls Tryz.prog 21 #[.agg #[.slice pa p.length pc], .int .i64 gives, .agg #[.int .i64 17, .int .i64 a, .int .i64 b], .agg #[.slice z1 st.length c1, .slice z2 lo.length c2]] w fun e w' => L7Post (effF p gives (17, a, b) (st, lo)) w e w' := by
  have HOKP : Hid (okP p = true) := hok'
  have HSP : Hid (SmallP p) := hsp
  have h6 : p.length ≤ 6 := (okP_len hok').2
  have hp0 : 0 < p.length := (okP_len hok').1
  have HSU : Hid (SupOk p p.length) := (ok_sup hok').sup
  have HP : Hid (SK front B w (.slice pa p.length pc) p) := hp
  have HS : Hid (SI true B w (.slice z1 st.length c1) st) := hs
  have HL : Hid (SI true B w (.slice z2 lo.length c2) lo) := hl
  obtain ⟨hst8, hlo8, hkst, hklo⟩ := okSt_iff.1 hst
  dsimp only at hst8 hlo8 hkst hklo
  have HST : Hid (st.length ≤ 8 ∧ lo.length = 8) := ⟨hst8, hlo8⟩
  have HKS : Hid (st.all (kindB p.length) = true ∧ lo.all (kindB p.length) = true) := ⟨hkst, hklo⟩
  have HBW : Hid (B ≤ w.heap.size) := si_base hl (by omega)
  obtain ⟨T1, HT1⟩ : ∃ T, Hid ((if st.length < 1 then (-3 : Int) else topF st 1) = T) := ⟨_, rfl⟩
  obtain ⟨T2, HT2⟩ : ∃ T, Hid ((if st.length < 2 then (-3 : Int) else topF st 2) = T) := ⟨_, rfl⟩
  clear hok' hsp hp hs hl hst hlo8 hkst hklo
  obtain ⟨W, hW⟩ : ∃ W, W = (((w.alloc (.cells #[.slice pa p.length pc] 37)).alloc (.cells #[.int .i64 17, .int .i64 a, .int .i64 b] 39)).alloc (.cells #[.slice z1 st.length c1, .slice z2 lo.length c2] 32)).alloc (.cells #[.slice none 0 0, .slice none 0 0] 32) := ⟨_, rfl⟩
  have hwW : Below w.heap.size w W := by rw [hW]; exact ((((Below.refl _ _).alloc (Nat.le_refl _) _).alloc (by simp) _).alloc (by simp; omega) _).alloc (by simp; omega) _
  have C0 : Hid (Cells W w.heap.size [.slice pa p.length pc]) := by rw [hW]; exact (((Cells.new w _ rfl _ _).alloc _).alloc _).alloc _
  have C1 : Hid (Cells W (w.heap.size + 1) [.int .i64 17, .int .i64 a, .int .i64 b]) := by rw [hW]; exact ((Cells.new (w.alloc _) _ (by simp) _ _).alloc _).alloc _
  have C2 : Hid (Cells W (w.heap.size + 1 + 1) [.slice z1 st.length c1, .slice z2 lo.length c2]) := by rw [hW]; exact (Cells.new ((w.alloc _).alloc _) _ (by simp) _ _).alloc _
  have R0 : Hid (Cells W (w.heap.size + 1 + 1 + 1) [.slice none 0 0, .slice none 0 0]) := by rw [hW]; exact Cells.new (((w.alloc _).alloc _).alloc _) _ (by simp) _ _
  have HZ : Hid (W.heap.size = w.heap.size + 1 + 1 + 1 + 1) := by rw [hW]; show _ = _; simp
  have CN : Hid (Cells (W.alloc (.cells #[.slice none 0 0, .slice none 0 0] 32)) W.heap.size [.slice none 0 0, .slice none 0 0]) := Cells.new W _ rfl _ _
  have hbV : Below W.heap.size W (W.alloc (.cells #[.slice none 0 0, .slice none 0 0] 32)) := (Below.refl _ _).alloc (Nat.le_refl _) _
  go_enter Tryz.func21, Tryz.ntmps21
  go_wp2_with fail
  rw [← hW]
  clear hW
  refine (l7Back_at B z1 c1 st (by omega) 1 (by omega) (by omega) W (SI.on HS.out (Keep.of hwW))).mono ?_
  rw [HT1.out]
  rintro e w1 ⟨rfl, rfl⟩
  obtain ⟨t0, _⟩ := C2.out.g0
  go_wp2_with fail
  refine (l7Back_at B z1 c1 st (by omega) 2 (by omega) (by omega) W (SI.on HS.out (Keep.of hwW))).mono ?_
  rw [HT2.out]
  rintro e w1 ⟨rfl, rfl⟩
  clear t0
  obtain ⟨i0, _⟩ := (C1.out.on hbV).g0
  obtain ⟨i1, _⟩ := (C1.out.on hbV).g1
  obtain ⟨i2, _⟩ := (C1.out.on hbV).g2
  obtain ⟨t0, _⟩ := (C2.out.on hbV).g0
  obtain ⟨t1, _⟩ := (C2.out.on hbV).g1
  obtain ⟨p0, _⟩ := (C0.out.on hbV).g0
  have HEF : Hid (effF p gives (17, a, b) (st, lo) = (if a < (p.length : Int) then (callF p a b).bind fun m => tpF p (st, lo) (a :: m.args) [m.gives] else none)) := by show _ = _; simp [effF]
  go_wp2_with fail
  refine (l7Call_at B p HOKP.out HSP.out (W.alloc (.cells #[.slice none 0 0, .slice none 0 0] 32)) pa pc (SK.on HP.out (Keep.of (below_over hwW hbV))) a b ha0 z1 z2 c1 c2 st lo (okSt_iff.2 ⟨HST.out.1, HST.out.2, HKS.out.1, HKS.out.2⟩) hc1 (SI.on HS.out (Keep.of (below_over hwW hbV))) (SI.on HL.out (Keep.of (below_over hwW hbV)))).mono ?_
  rw [← HEF.out]
  have hsV := hbV.size
  rintro e w5 ⟨⟨t, x1, y1, x2, y2, ho, rfl, hown⟩ | ⟨ho, x1, n1, y1, x2, n2, y2, rfl⟩, hb5⟩
  · have hW5 : Below W.heap.size W w5 := below_over hbV hb5
    have HO : Hid (effF p gives (17, a, b) (st, lo) = some t) := ho
    have RA := R0.out.on hW5
    obtain ⟨r0, q0⟩ := RA.g0
    obtain ⟨r1, q1⟩ := RA.g1
    have HOW : Hid (OwnS w.heap.size ((w5.setCell ⟨w.heap.size + 1 + 1 + 1, 0, none⟩ (.slice x1 t.1.length y1)).setCell ⟨w.heap.size + 1 + 1 + 1, 1, none⟩ (.slice x2 t.2.length y2)) (.slice x1 t.1.length y1) (.slice x2 t.2.length y2) t) := own_cell2 hown (by have := HZ.out; omega) (by have := HZ.out; omega)
    have HBE : Hid (Below w.heap.size w ((w5.setCell ⟨w.heap.size + 1 + 1 + 1, 0, none⟩ (.slice x1 t.1.length y1)).setCell ⟨w.heap.size + 1 + 1 + 1, 1, none⟩ (.slice x2 t.2.length y2))) := ((below_over hwW hW5).setCell (p := ⟨w.heap.size + 1 + 1 + 1, 0, none⟩) (by simp; omega) _).setCell (p := ⟨w.heap.size + 1 + 1 + 1, 1, none⟩) (by simp; omega) _
    have R5 := (RA.s0 (.slice x1 t.1.length y1)).s1 (.slice x2 t.2.length y2)
    obtain ⟨e0, _⟩ := R5.g0
    obtain ⟨e1, _⟩ := R5.g1
    clear RA R5 hb5 ho t0 t1 i0 i1 i2 p0 hown
    go_wp2
    refine bodyPost_ret (v := .tuple #[.agg #[.slice x1 t.1.length y1, .slice x2 t.2.length y2], .bool true]) (by simp [results, Tryz.results21, go_sem, e0, e1]) rfl ?_
    exact ⟨.inl ⟨t, x1, y1, x2, y2, HO.out, rfl, HOW.out⟩, HBE.out⟩
  · have hW5 : Below W.heap.size W w5 := below_over hbV hb5
    have HO : Hid (effF p gives (17, a, b) (st, lo) = none) := ho
    have RA := R0.out.on hW5
    obtain ⟨r0, q0⟩ := RA.g0
    obtain ⟨r1, q1⟩ := RA.g1
    have HBE : Hid (Below w.heap.size w ((w5.setCell ⟨w.heap.size + 1 + 1 + 1, 0, none⟩ (.slice x1 n1 y1)).setCell ⟨w.heap.size + 1 + 1 + 1, 1, none⟩ (.slice x2 n2 y2))) := ((below_over hwW hW5).setCell (p := ⟨w.heap.size + 1 + 1 + 1, 0, none⟩) (by simp; omega) _).setCell (p := ⟨w.heap.size + 1 + 1 + 1, 1, none⟩) (by simp; omega) _
    have R5 := (RA.s0 (.slice x1 n1 y1)).s1 (.slice x2 n2 y2)
    obtain ⟨e0, _⟩ := R5.g0
    obtain ⟨e1, _⟩ := R5.g1
    clear RA R5 hb5 ho t0 t1 i0 i1 i2 p0 
    go_wp2
    refine bodyPost_ret (v := .tuple #[.agg #[.slice x1 n1 y1, .slice x2 n2 y2], .bool false]) (by simp [results, Tryz.results21, go_sem, e0, e1]) rfl ?_
    exact ⟨.inr ⟨HO.out, x1, n1, y1, x2, n2, y2, rfl⟩, HBE.out⟩
end Pg
end Go.Proofs.YtfdlljdljefkfaaGreatDoor

/- The contract of the specification's effect of a step: whole. -/
namespace Go.Proofs.YtfdlljdljefkfaaGreatDoor
namespace Pg
open Go.ChangeShapes Go.WideShapes Go.ChangeAt Go.RowKit St

theorem l7Effect_at (B : Nat) (p : Prg) (hok' : okP p = true) (hsp : SmallP p) (w : World) (pa : Option Addr) (pc : Nat) (hp : SK front B w (.slice pa p.length pc) p) (i : Tx.Ins) (hi : Tx.okT i = true) (gives : Int) (hg0 : -3 ≤ gives) (hg1 : gives < (p.length : Int)) (z1 z2 : Option Addr) (c1 c2 : Nat) (st lo : List Int) (hst : okSt p (st, lo)) (hc1 : st.length ≤ c1) (hs : SI true B w (.slice z1 st.length c1) st) (hl : SI true B w (.slice z2 lo.length c2) lo) :
    Calls Tryz.prog 21 #[.agg #[.slice pa p.length pc], .int .i64 gives, .agg #[.int .i64 i.1, .int .i64 i.2.1, .int .i64 i.2.2], .agg #[.slice z1 st.length c1, .slice z2 lo.length c2]] w fun e w' => L7Post (effF p gives i (st, lo)) w e w' := by
  obtain ⟨op, a, b⟩ := i
  have hop : 1 ≤ op ∧ op ≤ 20 := Tx.ok_op hi
  have hlim : op ≠ 1 → 0 ≤ a ∧ a < Tx.limA op ∧ 0 ≤ b := by
    intro h1
    have h := hi
    unfold Tx.okT Tx.okI at h
    dsimp only at h
    rw [if_neg h1] at h
    simp only [Bool.and_eq_true, decide_eq_true_eq] at h
    exact ⟨h.1.1.1, h.1.1.2, h.1.2⟩
  dsimp only
  have hcs : op = 1 ∨ op = 2 ∨ op = 3 ∨ op = 4 ∨ op = 5 ∨ op = 6 ∨ op = 7 ∨ op = 8 ∨ op = 9 ∨ op = 10 ∨ op = 11 ∨ op = 12 ∨ op = 13 ∨ op = 14 ∨ op = 15 ∨ op = 16 ∨ op = 17 ∨ op = 18 ∨ op = 19 ∨ op = 20 := by omega
  rcases hcs with rfl | rfl | rfl | rfl | rfl | rfl | rfl | rfl | rfl | rfl | rfl | rfl | rfl | rfl | rfl | rfl | rfl | rfl | rfl | rfl
  · exact l7_1 B p hok' hsp w pa pc hp a b gives  z1 z2 c1 c2 st lo hst hc1 hs hl
  · have hL := hlim (by omega)
    exact l7_2 B p hok' hsp w pa pc hp a b gives hL.1 (by have := hL.2.1; simpa [Tx.limA] using this) z1 z2 c1 c2 st lo hst hc1 hs hl
  · have hL := hlim (by omega)
    exact l7_3 B p hok' hsp w pa pc hp a b gives hL.1 (by have := hL.2.1; simpa [Tx.limA] using this) z1 z2 c1 c2 st lo hst hc1 hs hl
  · exact l7_4 B p hok' hsp w pa pc hp a b gives  z1 z2 c1 c2 st lo hst hc1 hs hl
  · exact l7_5 B p hok' hsp w pa pc hp a b gives  z1 z2 c1 c2 st lo hst hc1 hs hl
  · exact l7_6 B p hok' hsp w pa pc hp a b gives  z1 z2 c1 c2 st lo hst hc1 hs hl
  · exact l7_7 B p hok' hsp w pa pc hp a b gives  z1 z2 c1 c2 st lo hst hc1 hs hl
  · exact l7_8 B p hok' hsp w pa pc hp a b gives  z1 z2 c1 c2 st lo hst hc1 hs hl
  · exact l7_9 B p hok' hsp w pa pc hp a b gives  z1 z2 c1 c2 st lo hst hc1 hs hl
  · exact l7_10 B p hok' hsp w pa pc hp a b gives  z1 z2 c1 c2 st lo hst hc1 hs hl
  · exact l7_11 B p hok' hsp w pa pc hp a b gives  z1 z2 c1 c2 st lo hst hc1 hs hl
  · exact l7_12 B p hok' hsp w pa pc hp a b gives  z1 z2 c1 c2 st lo hst hc1 hs hl
  · exact l7_13 B p hok' hsp w pa pc hp a b gives  z1 z2 c1 c2 st lo hst hc1 hs hl
  · exact l7_14 B p hok' hsp w pa pc hp a b gives  z1 z2 c1 c2 st lo hst hc1 hs hl
  · have hL := hlim (by omega)
    exact l7_15 B p hok' hsp w pa pc hp a b gives hL.1 hL.2.2 z1 z2 c1 c2 st lo hst hc1 hs hl
  · have hL := hlim (by omega)
    exact l7_16 B p hok' hsp w pa pc hp a b gives hL.1 hL.2.2 z1 z2 c1 c2 st lo hst hc1 hs hl
  · have hL := hlim (by omega)
    exact l7_17 B p hok' hsp w pa pc hp a b gives hL.1 z1 z2 c1 c2 st lo hst hc1 hs hl
  · exact l7_18 B p hok' hsp w pa pc hp a b gives  z1 z2 c1 c2 st lo hst hc1 hs hl
  · exact l7_19 B p hok' hsp w pa pc hp a b gives  z1 z2 c1 c2 st lo hst hc1 hs hl
  · exact l7_20 B p hok' hsp w pa pc hp a b gives hg0 hg1 z1 z2 c1 c2 st lo hst hc1 hs hl
end Pg
end Go.Proofs.YtfdlljdljefkfaaGreatDoor

/- The contract of the other side's look at a state. -/
namespace Go.Proofs.YtfdlljdljefkfaaGreatDoor
namespace Pg
open Go.ChangeShapes Go.WideShapes Go.ChangeAt Go.RowKit St

theorem all_step {n k : Nat} {l : List Int} (hk : k < l.length) (h : (l.take k).all (kindB n) = true) : (kindB n l[k] = true → (l.take (k + 1)).all (kindB n) = true) ∧ (kindB n l[k] = false → l.all (kindB n) = false) := by
  refine ⟨fun hx => ?_, fun hx => ?_⟩
  · rw [List.take_succ_eq_append_getElem hk, List.all_append, h]
    simp [hx]
  · cases h2 : l.all (kindB n)
    · rfl
    · rw [List.all_eq_true.1 h2 _ (List.getElem_mem hk)] at hx; cases hx
set_option maxRecDepth 100000 in
set_option maxHeartbeats 2000000 in
theorem l6State (B : Nat) (n : Nat) (hn : n ≤ 1048576) (a : Option Addr) (cap : Nat) (z1 z2 : Option Addr) (c1 c2 : Nat) (st lo : List Int) (w : World) (hs : SI true B w (.slice z1 st.length c1) st) (ho : SI true B w (.slice z2 lo.length c2) lo) :
    Calls Tryz.prog 20 #[.agg #[.slice a n cap], .agg #[.slice z1 st.length c1, .slice z2 lo.length c2]] w fun e w' => e = .returned (.bool (stateB n st lo)) ∧ Below w.heap.size w w' := by
  have HS : Hid (SI true B w (.slice z1 st.length c1) st) := hs
  have HO : Hid (SI true B w (.slice z2 lo.length c2) lo) := ho
  clear hs ho
  obtain ⟨W, hW⟩ : ∃ W, W = (w.alloc (.cells #[.slice a n cap] 37)).alloc (.cells #[.slice z1 st.length c1, .slice z2 lo.length c2] 32) := ⟨_, rfl⟩
  have hwW : Below w.heap.size w W := by rw [hW]; exact ((Below.refl _ _).alloc (Nat.le_refl _) _).alloc (by simp) _
  have P0 : Hid (Cells W w.heap.size [.slice a n cap]) := by rw [hW]; exact (Cells.new w _ rfl _ _).alloc _
  have S0 : Hid (Cells W (w.heap.size + 1) [.slice z1 st.length c1, .slice z2 lo.length c2]) := by rw [hW]; exact Cells.new _ _ (by simp) _ _
  by_cases hst : st.length ≤ 8
  · by_cases hlo : lo.length = 8
    · have hsi : ¬ (8 : Int) < (st.length : Int) := by omega
      have hli : ((lo.length : Int) != 8) = false := by rw [hlo]; rfl
      have HR : Hid (stateB n st lo = (st.all (kindB n) && lo.all (kindB n))) := by show _ = _; simp [stateB, hst, hlo]
      obtain ⟨r, hr⟩ : ∃ r, r = stateB n st lo := ⟨_, rfl⟩
      have HRR : Hid (r = (st.all (kindB n) && lo.all (kindB n))) := by show _ = _; rw [hr]; exact HR.out
      rw [← hr]
      have HLO : Hid (lo.length = 8) := hlo
      clear hr HR hlo
      go_enter Tryz.func20, Tryz.ntmps20
      go_wp2
      rw [← hW]
      clear hW
      go_loopw [5] (fun i wr => ∃ k : Nat, k ≤ st.length ∧ i = .int .i64 k ∧ Hid ((st.take k).all (kindB n) = true) ∧ Below W.heap.size W wr) (fun i _ => st.length - (intOf i).toNat)
      case atStart => exact ⟨0, Nat.zero_le _, rfl, rfl, Below.refl _ _⟩
      case round =>
        obtain ⟨k, hk, rfl, hall, hb⟩ := hrel
        have hwr : Below w.heap.size w wr := below_over hwW hb
        obtain ⟨p0, _⟩ := (P0.out.on hb).g0
        obtain ⟨s0, _⟩ := (S0.out.on hb).g0
        by_cases hlt : k < st.length
        · obtain ⟨b, o, rfl, _, a0⟩ := (SI.on HS.out (Keep.of hwr)).get hlt
          have HST := all_step hlt hall.out
          have HSU : Hid ((kindB n st[k] = true → (st.take (k + 1)).all (kindB n) = true) ∧ (kindB n st[k] = false → st.all (kindB n) = false)) := HST
          clear HST hall
          have hki : (k : Int) < (st.length : Int) := by omega
          have hk0 : (0 : Int) ≤ (k : Int) := by omega
          generalize st[k] = x at *
          have a0 : wr.cell? ⟨b, o + k, none⟩ = some (.int .i64 x) := by simpa [IntAt] using a0
          have e0 := cell_regrown p0
          have e1 := cell_regrown s0
          have e2 := cell_regrown a0
          have cK : ∀ d os, Calls Tryz.prog 38 #[.agg #[.slice a n cap], .int .i64 x] (Sort.grow (redrawn wr d) os) fun e w'' => e = .returned (.bool (kindB n x)) ∧ ∃ p : Regrown, w'' = Sort.grow (redrawn wr p.d) p.os := fun d os => Calls.regrown_of (l6Kind a n cap hn x _)
          go_wp2_with fail
          refine wp_region_quiet_below (by kernel_rfl) (by kernel_rfl) ?_
          repeat (go_big_quiet_step ((go_at_call 38; exact cK _ _)))
          refine wpQuiet_nil ?_
          intro _ hw'
          obtain ⟨⟨dq, osq⟩, hw''⟩ := hw'
          subst hw''
          have hb2 : Below W.heap.size W (Sort.grow (redrawn wr dq) osq) := below_over hb (below_regrown wr dq osq)
          clear cK e0 e1 e2 a0 p0 s0 hb hwr
          generalize Sort.grow (redrawn wr dq) osq = w3 at *
          cases hx : kindB n x
          · have HN : Hid (r = false) := by show _ = _; rw [HRR.out, HSU.out.2 hx]; rfl
            go_wp2
            go_ret
            exact ⟨by rw [HN.out]; rfl, below_over hwW hb2⟩
          · have HY : Hid ((st.take (k + 1)).all (kindB n) = true) := HSU.out.1 hx
            go_wp2
            go_roundw
            case rel => exact ⟨k + 1, by omega, by go_num, HY.out, hb2⟩
            case measure => simp [intOf]; omega
        · have hki : ¬ (k : Int) < (st.length : Int) := by omega
          have HR2 : Hid (r = lo.all (kindB n)) := by
            show _ = _
            have := hall.out
            rw [List.take_of_length_le (by omega)] at this
            rw [HRR.out, this]; rfl
          clear hall
          go_wp2
          clear p0 s0 hwr
          go_loopw [6] (fun i wm => ∃ h : Nat, h ≤ 8 ∧ i = .int .i64 h ∧ Hid ((lo.take h).all (kindB n) = true) ∧ Below W.heap.size W wm) (fun i _ => 8 - (intOf i).toNat)
          case atStart => exact ⟨0, Nat.zero_le _, rfl, rfl, hb⟩
          case round =>
            clear hb
            obtain ⟨h, hh, rfl, hall, hb⟩ := hrel
            have hwr : Below w.heap.size w wr := below_over hwW hb
            obtain ⟨p0, _⟩ := (P0.out.on hb).g0
            obtain ⟨s0, _⟩ := (S0.out.on hb).g1
            by_cases hlt : h < 8
            · have hll : h < lo.length := by rw [HLO.out]; exact hlt
              obtain ⟨b, o, rfl, _, a0⟩ := (SI.on HO.out (Keep.of hwr)).get hll
              have HST := all_step hll hall.out
              have HSU : Hid ((kindB n lo[h] = true → (lo.take (h + 1)).all (kindB n) = true) ∧ (kindB n lo[h] = false → lo.all (kindB n) = false)) := HST
              clear HST hall
              have hhi : (h : Int) < 8 := by omega
              have hhl : (h : Int) < (lo.length : Int) := by omega
              have hh0 : (0 : Int) ≤ (h : Int) := by omega
              generalize lo[h] = x at *
              have a0 : wr.cell? ⟨b, o + h, none⟩ = some (.int .i64 x) := by simpa [IntAt] using a0
              have e0 := cell_regrown p0
              have e1 := cell_regrown s0
              have e2 := cell_regrown a0
              have cK : ∀ d os, Calls Tryz.prog 38 #[.agg #[.slice a n cap], .int .i64 x] (Sort.grow (redrawn wr d) os) fun e w'' => e = .returned (.bool (kindB n x)) ∧ ∃ p : Regrown, w'' = Sort.grow (redrawn wr p.d) p.os := fun d os => Calls.regrown_of (l6Kind a n cap hn x _)
              go_wp2_with fail
              refine wp_region_quiet_below (by kernel_rfl) (by kernel_rfl) ?_
              repeat (go_big_quiet_step ((go_at_call 38; exact cK _ _)))
              refine wpQuiet_nil ?_
              intro _ hw'
              obtain ⟨⟨dq, osq⟩, hw''⟩ := hw'
              subst hw''
              have hb2 : Below W.heap.size W (Sort.grow (redrawn wr dq) osq) := below_over hb (below_regrown wr dq osq)
              clear cK e0 e1 e2 a0 p0 s0 hb hwr
              generalize Sort.grow (redrawn wr dq) osq = w3 at *
              cases hx : kindB n x
              · have HN : Hid (r = false) := by show _ = _; rw [HR2.out, HSU.out.2 hx]
                go_wp2
                go_ret
                exact ⟨by rw [HN.out]; rfl, below_over hwW hb2⟩
              · have HY : Hid ((lo.take (h + 1)).all (kindB n) = true) := HSU.out.1 hx
                go_wp2
                go_roundw
                case rel => exact ⟨h + 1, by omega, by go_num, HY.out, hb2⟩
                case measure => simp [intOf]; omega
            · have hhi : ¬ (h : Int) < 8 := by omega
              have HN : Hid (r = true) := by
                show _ = _
                have h1 := hall.out
                rw [List.take_of_length_le (by rw [HLO.out]; omega)] at h1
                rw [HR2.out, h1]
              go_wp2
              go_ret
              exact ⟨by rw [HN.out]; rfl, hwr⟩
    · have hsi : ¬ (8 : Int) < (st.length : Int) := by omega
      have hli : ((lo.length : Int) != 8) = true := by simp; omega
      have HR : Hid (stateB n st lo = false) := by show _ = _; simp [stateB, hlo]
      rw [HR.out]
      clear hW
      go_enter Tryz.func20, Tryz.ntmps20
      go_wp2
      go_ret
      exact ⟨rfl, by go_grown⟩
  · have hsi : (8 : Int) < (st.length : Int) := by omega
    have HR : Hid (stateB n st lo = false) := by show _ = _; simp [stateB, hst]
    rw [HR.out]
    clear hW
    go_enter Tryz.func20, Tryz.ntmps20
    go_wp2
    go_ret
    exact ⟨rfl, by go_grown⟩
end Pg
end Go.Proofs.YtfdlljdljefkfaaGreatDoor

/- The law FnHier answers true at every row of bytes. -/
import Derived.Test.YtmbbombjlijknaaJHr0
namespace Go.Proofs.Ytmbbombjlijknaa
namespace Pg
open Go.ChangeShapes Go.WideShapes Go.ChangeAt Go.RowKit St

set_option maxRecDepth 100000 in
set_option maxHeartbeats 16000000 in
theorem hier_small (w : World) (a0 : Option Addr) (len cap : Nat) (hB : Cu.Bytes w.heap.size w a0 len) :
    Calls Try.prog 3 #[.slice a0 len cap] w fun e w' => e = .returned (.bool true) ∧ Below w.heap.size w w' := by
  have hl := hB.1
  have hnb : decide ((4096 : Int) < (len : Int)) = false := by simp; omega
  have HB : Hid (Cu.Bytes w.heap.size w a0 len) := hB
  clear hB
  go_enter Try.func3, Try.ntmps3
  go_wp2_with fail
  refine (Cu.big_at _ _ _ _).mono ?_
  rintro e w1 ⟨rfl, rfl⟩
  go_wp2_with fail
  refine (drawLowest_at w.heap.size _ _ _ _ HB.out (Nat.le_refl _)).mono ?_
  rintro e w1 ⟨gp, cp, p, a, b, rfl, hp⟩
  have HP : Hid (PN w gp cp p w1) := hp
  have hpl := hp.len
  obtain ⟨lw, hlw⟩ : ∃ lw, lw = lowA p a b := ⟨_, rfl⟩
  have HLW : Hid (lw = lowA p a b) := hlw
  have HU1 : Hid (Cells (w1.alloc (.cells #[.slice (some ⟨gp, 0, none⟩) p.length cp] 26)) w1.heap.size [.slice (some ⟨gp, 0, none⟩) p.length cp]) := Cells.new w1 _ rfl _ _
  have hb1 : Below w1.heap.size w1 (w1.alloc (.cells #[.slice (some ⟨gp, 0, none⟩) p.length cp] 26)) := (Below.refl _ _).alloc (Nat.le_refl _) _
  have HK1 : Hid (SK front 0 (w1.alloc (.cells #[.slice (some ⟨gp, 0, none⟩) p.length cp] 26)) (.slice (some ⟨gp, 0, none⟩) p.length cp) p) := SK.weak (SK.on hp.sk (Keep.of hb1)) (Nat.zero_le _)
  have HW1 : Hid (Below w.heap.size w (w1.alloc (.cells #[.slice (some ⟨gp, 0, none⟩) p.length cp] 26))) := below_over hp.below hb1
  clear hnb hp hlw hb1
  go_wp2_with fail
  generalize w1.alloc (.cells #[.slice (some ⟨gp, 0, none⟩) p.length cp] 26) = u1 at *
  generalize w1.heap.size = pb at *
  refine (implLowest 0 p _ cp a b HP.out.small u1 HK1.out).mono ?_
  rw [← HLW.out]
  rintro e w2 ⟨rfl, hb2⟩
  have HU2 : Hid (Cells w2 pb [.slice (some ⟨gp, 0, none⟩) p.length cp]) := HU1.out.on hb2
  have HK2 : Hid (SK front 0 w2 (.slice (some ⟨gp, 0, none⟩) p.length cp) p) := SK.on HK1.out (Keep.of hb2)
  have HW2 : Hid (Below w.heap.size w w2) := below_over HW1.out hb2
  clear HU1 HK1 HW1 hb2
  go_wp2_with fail
  refine (drawAboveOf_at w.heap.size w2 _ _ _ (HB.out.below HW2.out) HW2.out.size).mono ?_
  rintro e w3 ⟨gq, cq, q, cl, rfl, hq⟩
  have hql := hq.len
  have HQS : Hid (SmallP q) := hq.small
  have HPS : Hid (SmallP p) := HP.out.small
  have hb3 : Below w2.heap.size w2 (w3.alloc (.cells #[.slice (some ⟨gq, 0, none⟩) q.length cq] 26)) := below_over hq.below ((Below.refl _ _).alloc (Nat.le_refl _) _)
  have HU3 : Hid (Cells (w3.alloc (.cells #[.slice (some ⟨gq, 0, none⟩) q.length cq] 26)) pb [(.slice (some ⟨gp, 0, none⟩) p.length cp)]) := HU2.out.on hb3
  have HK3 : Hid (SK front 0 (w3.alloc (.cells #[.slice (some ⟨gq, 0, none⟩) q.length cq] 26)) (.slice (some ⟨gp, 0, none⟩) p.length cp) p) := SK.on HK2.out (Keep.of hb3)
  have HV3 : Hid (Cells (w3.alloc (.cells #[.slice (some ⟨gq, 0, none⟩) q.length cq] 26)) w3.heap.size [(.slice (some ⟨gq, 0, none⟩) q.length cq)]) := Cells.new w3 _ rfl _ _
  have HQ3 : Hid (SK front 0 (w3.alloc (.cells #[.slice (some ⟨gq, 0, none⟩) q.length cq] 26)) (.slice (some ⟨gq, 0, none⟩) q.length cq) q) := SK.weak (SK.on hq.sk (Keep.of ((Below.refl _ _).alloc (Nat.le_refl _) _))) (Nat.zero_le _)
  have HW3 : Hid (Below w.heap.size w (w3.alloc (.cells #[.slice (some ⟨gq, 0, none⟩) q.length cq] 26))) := below_over HW2.out hb3
  clear hq hb3 HU2 HK2 HW2 HP HB hl
  obtain ⟨lu, hlu⟩ : ∃ lu, lu = upA q cl := ⟨_, rfl⟩
  have HLU : Hid (lu = upA q cl) := hlu
  obtain ⟨ld, hld⟩ : ∃ ld, ld = downA q cl := ⟨_, rfl⟩
  have HLD : Hid (ld = downA q cl) := hld
  have hlul : lu.length ≤ 24 := by rw [hlu]; exact upA_len q cl
  have hldl : ld.length ≤ 24 := by rw [hld]; exact downA_len q cl
  clear hlu hld
  go_wp2_with fail
  generalize (w3.alloc (.cells #[.slice (some ⟨gq, 0, none⟩) q.length cq] 26)) = u3 at *
  generalize w3.heap.size = qb at *
  refine (implAboveOf 0 q _ cq cl HQS.out u3 HQ3.out).mono ?_
  rw [← HLU.out]
  rintro e w4 ⟨v4, rfl, hg4, hb4⟩
  obtain ⟨g1, c1, rfl, _, _, hi4, _⟩ := hg4.gint
  have HI4 : Hid (IRow w4 g1 0 lu) := hi4
  have HU4 : Hid (Cells w4 pb [(.slice (some ⟨gp, 0, none⟩) p.length cp)]) := HU3.out.on hb4
  have HK4 : Hid (SK front 0 w4 (.slice (some ⟨gp, 0, none⟩) p.length cp) p) := SK.on HK3.out (Keep.of hb4)
  have HV4 : Hid (Cells w4 qb [(.slice (some ⟨gq, 0, none⟩) q.length cq)]) := HV3.out.on hb4
  have HQ4 : Hid (SK front 0 w4 (.slice (some ⟨gq, 0, none⟩) q.length cq) q) := SK.on HQ3.out (Keep.of hb4)
  have HW4 : Hid (Below w.heap.size w w4) := below_over HW3.out hb4
  have y4 := HV4.out.g0.1
  clear hg4 hi4 hb4 HU3 HK3 HV3 HQ3 HW3
  go_wp2_with fail
  refine (implBelowOf 0 q _ cq cl HQS.out w4 HQ4.out).mono ?_
  rw [← HLD.out]
  rintro e w5 ⟨v5, rfl, hg5, hb5⟩
  obtain ⟨g2, c2, rfl, _, _, hi5, _⟩ := hg5.gint
  have H5 : HR w pb gp cp p qb gq cq q g1 lu g2 ld w5 := ⟨HU4.out.on hb5, HV4.out.on hb5, SK.on HK4.out (Keep.of hb5), SK.on HQ4.out (Keep.of hb5), HI4.out.on hb5, hi5, below_over HW4.out hb5⟩
  clear hg5 hi5 hb5 HU4 HK4 HV4 HQ4 HW4 HI4 y4
  have CLow : Hid (∀ u, HR w pb gp cp p qb gq cq q g1 lu g2 ld u → Calls Try.prog 12 #[.agg #[(.slice (some ⟨gp, 0, none⟩) p.length cp)], .int .i64 a, .int .i64 b] u fun e u' => e = .returned (.int .i64 lw) ∧ Below u.heap.size u u') := fun u h => by rw [HLW.out]; exact specLowest 0 p _ cp a b HPS.out u h.kp
  obtain ⟨ub, hub⟩ : ∃ ub, ub = undA p a b := ⟨_, rfl⟩
  have CUi : Hid (∀ u, HR w pb gp cp p qb gq cq q g1 lu g2 ld u → Calls Try.prog 13 #[.agg #[(.slice (some ⟨gp, 0, none⟩) p.length cp)], .int .i64 a, .int .i64 b] u fun e u' => e = .returned (.bool ub) ∧ Below u.heap.size u u') := fun u h => by rw [hub]; exact implUnder 0 p _ cp a b HPS.out u h.kp
  have CUs : Hid (∀ u, HR w pb gp cp p qb gq cq q g1 lu g2 ld u → Calls Try.prog 14 #[.agg #[(.slice (some ⟨gp, 0, none⟩) p.length cp)], .int .i64 a, .int .i64 b] u fun e u' => e = .returned (.bool ub) ∧ Below u.heap.size u u') := fun u h => by rw [hub]; exact specUnder 0 p _ cp a b HPS.out u h.kp
  have CA : Hid (∀ u, HR w pb gp cp p qb gq cq q g1 lu g2 ld u → Calls Try.prog 16 #[.agg #[(.slice (some ⟨gq, 0, none⟩) q.length cq)], .int .i64 cl] u fun e u' => ∃ v, e = .returned v ∧ Grow u.heap.size u' v lu ∧ Below u.heap.size u u') := fun u h => by rw [HLU.out]; exact specAboveOf 0 q _ cq cl HQS.out u h.kq
  have CB : Hid (∀ u, HR w pb gp cp p qb gq cq q g1 lu g2 ld u → Calls Try.prog 17 #[.agg #[(.slice (some ⟨gq, 0, none⟩) q.length cq)], .int .i64 cl] u fun e u' => ∃ v, e = .returned v ∧ Grow u.heap.size u' v ld ∧ Below u.heap.size u u') := fun u h => by rw [HLD.out]; exact specBelowOf 0 q _ cq cl HQS.out u h.kq
  have HRI : Hid (∀ k x y, ld[k]? = some x → ld[k + 1]? = some y → x < y) := by show ∀ k x y, _; rw [HLD.out]; exact down_rises q cl
  have hnu : (ub != ub) = false := by cases ub <;> rfl
  clear hub
  have H5d : HR w pb gp cp p qb gq cq q g1 lu g2 ld w5.drew := H5.on (Below.refl _ _).drew
  have y5 := H5.b2.g0.1
  have x5 := H5.b1.g0.1
  go_upto_region 8 with fail
  go_cut [73] (fun b u => b = .bool false ∧ HR w pb gp cp p qb gq cq q g1 lu g2 ld u)
  case first =>
    rename_i J KK hJ hKK
    refine wp_region_held_drew (S := HR w pb gp cp p qb gq cq q g1 lu g2 ld) (by kernel_rfl) (by assumption) (fun _ => ?_)
    refine wpAnyH_take (i := 0) (v := ?_) rfl (by kernel_rfl) (by kernel_rfl) (by kernel_rfl) (fun _ _ _ h => h) (Or.inl ⟨by kernel_rfl, ?_⟩) (by assumption) ?_
    rotate_left 1
    · intro w' hS
      have x1 := hS.b1.g0.1
      have x2 := hS.b2.g0.1
      go_simp
      try with_reducible rfl
    simp only [Act.put]
    refine wpAnyH_take (i := 1) (v := ?_) rfl (by kernel_rfl) (by kernel_rfl) (by kernel_rfl) (fun _ _ _ h => h) (Or.inl ⟨by kernel_rfl, ?_⟩) (by assumption) ?_
    rotate_left 1
    · intro w' hS
      have x1 := hS.b1.g0.1
      have x2 := hS.b2.g0.1
      go_simp
      try with_reducible rfl
    simp only [Act.put]
    refine wpAnyH_take (i := 2) (v := ?_) rfl (by kernel_rfl) (by kernel_rfl) (by kernel_rfl) (fun _ _ _ h => h) (Or.inl ⟨by kernel_rfl, ?_⟩) (by assumption) ?_
    rotate_left 1
    · intro w' hS
      have x1 := hS.b1.g0.1
      have x2 := hS.b2.g0.1
      go_simp
      try with_reducible rfl
    simp only [Act.put]
    refine wpAnyH_take (i := 3) (v := ?_) rfl (by kernel_rfl) (by kernel_rfl) (by kernel_rfl) (fun _ _ _ h => h) (Or.inl ⟨by kernel_rfl, ?_⟩) (by assumption) ?_
    rotate_left 1
    · intro w' hS
      have x1 := hS.b1.g0.1
      have x2 := hS.b2.g0.1
      go_simp
      try with_reducible rfl
    simp only [Act.put]
    refine wpAnyH_ready (rs := [4]) (by kernel_rfl) (by simp) ?_
    refine AllReadyH.cons rfl (fun K hK => ?_) AllReadyH.nil
    go_simp
    refine (HR.call (by assumption) (CLow.out _ (by assumption))).mono ?_
    rintro e u21 ⟨rfl, H21, x21, y21⟩
    dsimp only
    refine hK.out _ _ (by assumption) (fun _ => ?_)
    clear hK K
    refine wpAnyH_take (i := 5) (v := ?_) rfl (by kernel_rfl) (by kernel_rfl) (by kernel_rfl) (fun _ _ _ h => h) (Or.inl ⟨by kernel_rfl, ?_⟩) (by assumption) ?_
    rotate_left 1
    · intro w' hS
      have x1 := hS.b1.g0.1
      have x2 := hS.b2.g0.1
      go_simp
      try with_reducible rfl
    simp only [Act.put]
    refine wpAnyH_take (i := 6) (v := ?_) rfl (by kernel_rfl) (by kernel_rfl) (by kernel_rfl) (fun _ _ _ h => h) (Or.inl ⟨by kernel_rfl, ?_⟩) (by assumption) ?_
    rotate_left 1
    · intro w' hS
      have x1 := hS.b1.g0.1
      have x2 := hS.b2.g0.1
      go_simp
      try with_reducible rfl
    simp only [Act.put]
    refine wpAnyH_take (i := 7) (v := ?_) rfl (by kernel_rfl) (by kernel_rfl) (by kernel_rfl) (fun _ _ _ h => h) (Or.inl ⟨by kernel_rfl, ?_⟩) (by assumption) ?_
    rotate_left 1
    · intro w' hS
      have x1 := hS.b1.g0.1
      have x2 := hS.b2.g0.1
      go_simp
      try with_reducible rfl
    simp only [Act.put]
    refine wpAnyH_take (i := 8) (v := ?_) rfl (by kernel_rfl) (by kernel_rfl) (by kernel_rfl) (fun _ _ _ h => h) (Or.inl ⟨by kernel_rfl, ?_⟩) (by assumption) ?_
    rotate_left 1
    · intro w' hS
      have x1 := hS.b1.g0.1
      have x2 := hS.b2.g0.1
      go_simp
      try with_reducible rfl
    simp only [Act.put]
    refine wpAnyH_take (i := 9) (v := ?_) rfl (by kernel_rfl) (by kernel_rfl) (by kernel_rfl) (fun _ _ _ h => h) (Or.inl ⟨by kernel_rfl, ?_⟩) (by assumption) ?_
    rotate_left 1
    · intro w' hS
      have x1 := hS.b1.g0.1
      have x2 := hS.b2.g0.1
      go_simp
      try with_reducible rfl
    simp only [Act.put]
    refine wpAnyH_take (i := 11) (v := ?_) rfl (by kernel_rfl) (by kernel_rfl) (by kernel_rfl) (fun _ _ _ h => h) (Or.inl ⟨by kernel_rfl, ?_⟩) (by assumption) ?_
    rotate_left 1
    · intro w' hS
      have x1 := hS.b1.g0.1
      have x2 := hS.b2.g0.1
      go_simp
      try with_reducible rfl
    simp only [Act.put]
    refine wpAnyH_take (i := 12) (v := ?_) rfl (by kernel_rfl) (by kernel_rfl) (by kernel_rfl) (fun _ _ _ h => h) (Or.inl ⟨by kernel_rfl, ?_⟩) (by assumption) ?_
    rotate_left 1
    · intro w' hS
      have x1 := hS.b1.g0.1
      have x2 := hS.b2.g0.1
      go_simp
      try with_reducible rfl
    simp only [Act.put]
    refine wpAnyH_take (i := 13) (v := ?_) rfl (by kernel_rfl) (by kernel_rfl) (by kernel_rfl) (fun _ _ _ h => h) (Or.inl ⟨by kernel_rfl, ?_⟩) (by assumption) ?_
    rotate_left 1
    · intro w' hS
      have x1 := hS.b1.g0.1
      have x2 := hS.b2.g0.1
      go_simp
      try with_reducible rfl
    simp only [Act.put]
    refine wpAnyH_ready (rs := [10]) (by kernel_rfl) (by simp) ?_
    refine AllReadyH.cons rfl (fun K hK => ?_) AllReadyH.nil
    go_simp
    refine (HR.call (by assumption) (CUi.out _ (by assumption))).mono ?_
    rintro e u22 ⟨rfl, H22, x22, y22⟩
    dsimp only
    refine hK.out _ _ (by assumption) (fun _ => ?_)
    clear hK K
    refine wpAnyH_ready (rs := [14]) (by kernel_rfl) (by simp) ?_
    refine AllReadyH.cons rfl (fun K hK => ?_) AllReadyH.nil
    go_simp
    refine (HR.call (by assumption) (CUs.out _ (by assumption))).mono ?_
    rintro e u23 ⟨rfl, H23, x23, y23⟩
    dsimp only
    refine hK.out _ _ (by assumption) (fun _ => ?_)
    clear hK K
    refine wpAnyH_take (i := 15) (v := ?_) rfl (by kernel_rfl) (by kernel_rfl) (by kernel_rfl) (fun _ _ _ h => h) (Or.inl ⟨by kernel_rfl, ?_⟩) (by assumption) ?_
    rotate_left 1
    · intro w' hS
      have x1 := hS.b1.g0.1
      have x2 := hS.b2.g0.1
      go_simp
      try with_reducible rfl
    simp only [Act.put]
    refine wpAnyH_take (i := 16) (v := ?_) rfl (by kernel_rfl) (by kernel_rfl) (by kernel_rfl) (fun _ _ _ h => h) (Or.inl ⟨by kernel_rfl, ?_⟩) (by assumption) ?_
    rotate_left 1
    · intro w' hS
      have x1 := hS.b1.g0.1
      have x2 := hS.b2.g0.1
      go_simp
      try with_reducible rfl
    simp only [Act.put]
    refine wpAnyH_take (i := 17) (v := ?_) rfl (by kernel_rfl) (by kernel_rfl) (by kernel_rfl) (fun _ _ _ h => h) (Or.inl ⟨by kernel_rfl, ?_⟩) (by assumption) ?_
    rotate_left 1
    · intro w' hS
      have x1 := hS.b1.g0.1
      have x2 := hS.b2.g0.1
      go_simp
      try with_reducible rfl
    simp only [Act.put]
    refine wpAnyH_take (i := 18) (v := ?_) rfl (by kernel_rfl) (by kernel_rfl) (by kernel_rfl) (fun _ _ _ h => h) (Or.inl ⟨by kernel_rfl, ?_⟩) (by assumption) ?_
    rotate_left 1
    · intro w' hS
      have x1 := hS.b1.g0.1
      have x2 := hS.b2.g0.1
      go_simp
      try with_reducible rfl
    simp only [Act.put]
    refine wpAnyH_take (i := 19) (v := ?_) rfl (by kernel_rfl) (by kernel_rfl) (by kernel_rfl) (fun _ _ _ h => h) (Or.inl ⟨by kernel_rfl, ?_⟩) (by assumption) ?_
    rotate_left 1
    · intro w' hS
      have x1 := hS.b1.g0.1
      have x2 := hS.b2.g0.1
      go_simp
      try with_reducible rfl
    simp only [Act.put]
    refine wpAnyH_take (i := 20) (v := ?_) rfl (by kernel_rfl) (by kernel_rfl) (by kernel_rfl) (fun _ _ _ h => h) (Or.inl ⟨by kernel_rfl, ?_⟩) (by assumption) ?_
    rotate_left 1
    · intro w' hS
      have x1 := hS.b1.g0.1
      have x2 := hS.b2.g0.1
      go_simp
      try with_reducible rfl
    simp only [Act.put]
    refine wpAnyH_ready (rs := [21]) (by kernel_rfl) (by simp) ?_
    refine AllReadyH.cons rfl (fun K hK => ?_) AllReadyH.nil
    go_simp
    refine (HR.lst (by assumption) (CA.out _ (by assumption))).mono ?_
    rintro e u24 ⟨gx, cx, rfl, hix, H24, x24, y24⟩
    dsimp only
    refine hK.out _ _ (by assumption) (fun _ => ?_)
    clear hK K
    refine wpAnyH_ready (rs := [22]) (by kernel_rfl) (by simp) ?_
    refine AllReadyH.cons rfl (fun K hK => ?_) AllReadyH.nil
    go_simp
    refine (HR.call (by assumption) (likeSame g1 gx c1 cx lu (by omega) u24 H24.up hix)).mono ?_
    rintro e u25 ⟨rfl, H25, x25, y25⟩
    dsimp only
    refine hK.out _ _ (by assumption) (fun _ => ?_)
    clear hK K
    refine wpAnyH_take (i := 23) (v := ?_) rfl (by kernel_rfl) (by kernel_rfl) (by kernel_rfl) (fun _ _ _ h => h) (Or.inl ⟨by kernel_rfl, ?_⟩) (by assumption) ?_
    rotate_left 1
    · intro w' hS
      have x1 := hS.b1.g0.1
      have x2 := hS.b2.g0.1
      go_simp
      try with_reducible rfl
    simp only [Act.put]
    refine wpAnyH_take (i := 24) (v := ?_) rfl (by kernel_rfl) (by kernel_rfl) (by kernel_rfl) (fun _ _ _ h => h) (Or.inl ⟨by kernel_rfl, ?_⟩) (by assumption) ?_
    rotate_left 1
    · intro w' hS
      have x1 := hS.b1.g0.1
      have x2 := hS.b2.g0.1
      go_simp
      try with_reducible rfl
    simp only [Act.put]
    refine wpAnyH_take (i := 25) (v := ?_) rfl (by kernel_rfl) (by kernel_rfl) (by kernel_rfl) (fun _ _ _ h => h) (Or.inl ⟨by kernel_rfl, ?_⟩) (by assumption) ?_
    rotate_left 1
    · intro w' hS
      have x1 := hS.b1.g0.1
      have x2 := hS.b2.g0.1
      go_simp
      try with_reducible rfl
    simp only [Act.put]
    refine wpAnyH_take (i := 26) (v := ?_) rfl (by kernel_rfl) (by kernel_rfl) (by kernel_rfl) (fun _ _ _ h => h) (Or.inl ⟨by kernel_rfl, ?_⟩) (by assumption) ?_
    rotate_left 1
    · intro w' hS
      have x1 := hS.b1.g0.1
      have x2 := hS.b2.g0.1
      go_simp
      try with_reducible rfl
    simp only [Act.put]
    refine wpAnyH_take (i := 27) (v := ?_) rfl (by kernel_rfl) (by kernel_rfl) (by kernel_rfl) (fun _ _ _ h => h) (Or.inl ⟨by kernel_rfl, ?_⟩) (by assumption) ?_
    rotate_left 1
    · intro w' hS
      have x1 := hS.b1.g0.1
      have x2 := hS.b2.g0.1
      go_simp
      try with_reducible rfl
    simp only [Act.put]
    refine wpAnyH_take (i := 28) (v := ?_) rfl (by kernel_rfl) (by kernel_rfl) (by kernel_rfl) (fun _ _ _ h => h) (Or.inl ⟨by kernel_rfl, ?_⟩) (by assumption) ?_
    rotate_left 1
    · intro w' hS
      have x1 := hS.b1.g0.1
      have x2 := hS.b2.g0.1
      go_simp
      try with_reducible rfl
    simp only [Act.put]
    refine wpAnyH_ready (rs := [29]) (by kernel_rfl) (by simp) ?_
    refine AllReadyH.cons rfl (fun K hK => ?_) AllReadyH.nil
    go_simp
    refine (HR.lst (by assumption) (CB.out _ (by assumption))).mono ?_
    rintro e u26 ⟨gy, cy, rfl, hiy, H26, x26, y26⟩
    dsimp only
    refine hK.out _ _ (by assumption) (fun _ => ?_)
    clear hK K
    refine wpAnyH_ready (rs := [30]) (by kernel_rfl) (by simp) ?_
    refine AllReadyH.cons rfl (fun K hK => ?_) AllReadyH.nil
    go_simp
    refine (HR.call (by assumption) (likeSame g2 gy c2 cy ld (by omega) u26 H26.dn hiy)).mono ?_
    rintro e u27 ⟨rfl, H27, x27, y27⟩
    dsimp only
    refine hK.out _ _ (by assumption) (fun _ => ?_)
    clear hK K
    refine wpAnyH_take (i := 31) (v := ?_) rfl (by kernel_rfl) (by kernel_rfl) (by kernel_rfl) (fun _ _ _ h => h) (Or.inl ⟨by kernel_rfl, ?_⟩) (by assumption) ?_
    rotate_left 1
    · intro w' hS
      have x1 := hS.b1.g0.1
      have x2 := hS.b2.g0.1
      go_simp
      try with_reducible rfl
    simp only [Act.put]
    refine wpAnyH_take (i := 32) (v := ?_) rfl (by kernel_rfl) (by kernel_rfl) (by kernel_rfl) (fun _ _ _ h => h) (Or.inl ⟨by kernel_rfl, ?_⟩) (by assumption) ?_
    rotate_left 1
    · intro w' hS
      have x1 := hS.b1.g0.1
      have x2 := hS.b2.g0.1
      go_simp
      try with_reducible rfl
    simp only [Act.put]
    refine wpAnyH_take (i := 33) (v := ?_) rfl (by kernel_rfl) (by kernel_rfl) (by kernel_rfl) (fun _ _ _ h => h) (Or.inl ⟨by kernel_rfl, ?_⟩) (by assumption) ?_
    rotate_left 1
    · intro w' hS
      have x1 := hS.b1.g0.1
      have x2 := hS.b2.g0.1
      go_simp
      try with_reducible rfl
    simp only [Act.put]
    refine wpAnyH_take (i := 34) (v := ?_) rfl (by kernel_rfl) (by kernel_rfl) (by kernel_rfl) (fun _ _ _ h => h) (Or.inl ⟨by kernel_rfl, ?_⟩) (by assumption) ?_
    rotate_left 1
    · intro w' hS
      have x1 := hS.b1.g0.1
      have x2 := hS.b2.g0.1
      go_simp
      try with_reducible rfl
    simp only [Act.put]
    refine wpAnyH_ready (rs := [35]) (by kernel_rfl) (by simp) ?_
    refine AllReadyH.cons rfl (fun K hK => ?_) AllReadyH.nil
    go_simp
    refine (HR.call (by assumption) (risesYes g2 c2 ld (by omega) HRI.out _ H27.dn)).mono ?_
    rintro e u28 ⟨rfl, H28, x28, y28⟩
    dsimp only
    refine hK.out _ _ (by assumption) (fun _ => ?_)
    clear hK K
    refine wpAnyH_take (i := 36) (v := ?_) rfl (by kernel_rfl) (by kernel_rfl) (by kernel_rfl) (fun _ _ _ h => h) (Or.inl ⟨by kernel_rfl, ?_⟩) (by assumption) ?_
    rotate_left 1
    · intro w' hS
      have x1 := hS.b1.g0.1
      have x2 := hS.b2.g0.1
      go_simp
      try with_reducible rfl
    simp only [Act.put]
    refine wpAnyH_take (i := 37) (v := ?_) rfl (by kernel_rfl) (by kernel_rfl) (by kernel_rfl) (fun _ _ _ h => h) (Or.inl ⟨by kernel_rfl, ?_⟩) (by assumption) ?_
    rotate_left 1
    · intro w' hS
      have x1 := hS.b1.g0.1
      have x2 := hS.b2.g0.1
      go_simp
      try with_reducible rfl
    simp only [Act.put]
    refine wpAnyH_done (by kernel_rfl) ?_ _
    go_simp
    refine hKK _ _ (Met.intro (hJ _ _ ?_))
    (repeat apply Exists.intro)
    exact ⟨⟨rfl, by assumption⟩, rfl⟩
  case rest =>
    obtain ⟨rfl, H6⟩ := hcut
    clear CLow CUi CUs CA CB HRI hnu H5 H5d x5 y5
    go_wp2
    go_loopw [11] (fun i wr => ∃ k : Nat, i = .int .i64 (k : Int) ∧ k ≤ q.length ∧ HR w pb gp cp p qb gq cq q g1 lu g2 ld wr) (fun i _ => q.length + 1 - (intOf i).toNat)
    case atStart => exact ⟨0, rfl, Nat.zero_le _, H6⟩
    case round =>
      obtain ⟨k, rfl, hk, HI⟩ := hrel
      have xq := HI.b2.g0.1
      by_cases hlt : k < q.length
      · have hki : (k : Int) < (q.length : Int) := by omega
        obtain ⟨bu, hbu⟩ : ∃ bu, bu = undA q cl k := ⟨_, rfl⟩
        obtain ⟨b3, hb3⟩ : ∃ b3, b3 = undA q k cl := ⟨_, rfl⟩
        obtain ⟨bd, hbd⟩ : ∃ bd, bd = (b3 && decide (0 < (lu.length : Int))) := ⟨_, rfl⟩
        have CH1 : Hid (∀ u, HR w pb gp cp p qb gq cq q g1 lu g2 ld u → Calls Try.prog 19 #[.slice (some ⟨g1, 0, none⟩) lu.length c1, .int .i64 (k : Int)] u fun e u' => e = .returned (.bool bu) ∧ Below u.heap.size u u') := fun u h => by rw [hbu, ← up_has q cl k, ← HLU.out]; exact hasAt g1 c1 lu k (by omega) u h.up
        have CH2 : Hid (∀ u, HR w pb gp cp p qb gq cq q g1 lu g2 ld u → Calls Try.prog 19 #[.slice (some ⟨g2, 0, none⟩) ld.length c2, .int .i64 (k : Int)] u fun e u' => e = .returned (.bool bd) ∧ Below u.heap.size u u') := fun u h => by rw [hbd, hb3, HLU.out, ← down_has q cl hlt, ← HLD.out]; exact hasAt g2 c2 ld k (by omega) u h.dn
        have CV1 : Hid (∀ u, HR w pb gp cp p qb gq cq q g1 lu g2 ld u → Calls Try.prog 13 #[.agg #[(.slice (some ⟨gq, 0, none⟩) q.length cq)], .int .i64 cl, .int .i64 (k : Int)] u fun e u' => e = .returned (.bool bu) ∧ Below u.heap.size u u') := fun u h => by rw [hbu]; exact implUnder 0 q _ cq cl k HQS.out u h.kq
        have CV2 : Hid (∀ u, HR w pb gp cp p qb gq cq q g1 lu g2 ld u → Calls Try.prog 13 #[.agg #[(.slice (some ⟨gq, 0, none⟩) q.length cq)], .int .i64 (k : Int), .int .i64 cl] u fun e u' => e = .returned (.bool b3) ∧ Below u.heap.size u u') := fun u h => by rw [hb3]; exact implUnder 0 q _ cq k cl HQS.out u h.kq
        have HBD : Hid (bd = (b3 && decide (0 < (lu.length : Int)))) := hbd
        have hnu : (bu != bu) = false := by cases bu <;> rfl
        have HId : HR w pb gp cp p qb gq cq q g1 lu g2 ld wr.drew := HI.on (Below.refl _ _).drew
        clear hbu hb3 hbd H6
        have q1 : ∀ d os, Calls Try.prog 19 #[.slice (some ⟨g1, 0, none⟩) lu.length c1, .int .i64 (k : Int)] (Sort.grow (redrawn wr d) os) fun e w'' => e = .returned (.bool bu) ∧ ∃ p : Regrown, w'' = Sort.grow (redrawn wr p.d) p.os := fun d os => Calls.regrown_of (CH1.out _ (HI.on (below_regrown wr d os)))
        have q2 : ∀ d os, Calls Try.prog 13 #[.agg #[(.slice (some ⟨gq, 0, none⟩) q.length cq)], .int .i64 cl, .int .i64 (k : Int)] (Sort.grow (redrawn wr d) os) fun e w'' => e = .returned (.bool bu) ∧ ∃ p : Regrown, w'' = Sort.grow (redrawn wr p.d) p.os := fun d os => Calls.regrown_of (CV1.out _ (HI.on (below_regrown wr d os)))
        have q3 : ∀ d os, Calls Try.prog 19 #[.slice (some ⟨g2, 0, none⟩) ld.length c2, .int .i64 (k : Int)] (Sort.grow (redrawn wr d) os) fun e w'' => e = .returned (.bool bd) ∧ ∃ p : Regrown, w'' = Sort.grow (redrawn wr p.d) p.os := fun d os => Calls.regrown_of (CH2.out _ (HI.on (below_regrown wr d os)))
        have q4 : ∀ d os, Calls Try.prog 13 #[.agg #[(.slice (some ⟨gq, 0, none⟩) q.length cq)], .int .i64 (k : Int), .int .i64 cl] (Sort.grow (redrawn wr d) os) fun e w'' => e = .returned (.bool b3) ∧ ∃ p : Regrown, w'' = Sort.grow (redrawn wr p.d) p.os := fun d os => Calls.regrown_of (CV2.out _ (HI.on (below_regrown wr d os)))
        have e1 := cell_regrown xq
        clear CH1 CH2 CV1 CV2 hnu HId
        by_cases hl0 : 0 < (lu.length : Int)
        · obtain rfl : bd = b3 := by rw [HBD.out, decide_eq_true hl0, Bool.and_true]
          have hl0n : 0 < lu.length := by omega
          cases bu <;> cases bd <;>
          (go_wp2_with fail
           refine wp_region_quiet_below (by kernel_rfl) (by kernel_rfl) ?_
           repeat (go_big_quiet_step (fail))
           go_big_quiet_step ((go_at_call 19; exact q1 _ _))
           repeat (go_big_quiet_step (fail))
           go_big_quiet_step ((go_at_call 13; exact q2 _ _))
           repeat (go_big_quiet_step (fail))
           go_big_quiet_step ((go_at_call 19; exact q3 _ _))
           repeat (go_big_quiet_step (fail))
           go_big_quiet_step ((go_at_call 13; exact q4 _ _))
           repeat (go_big_quiet_step (fail))
           refine wpQuiet_nil ?_
           intro _ hw'
           obtain ⟨⟨dq, osq⟩, hw''⟩ := hw'
           subst hw''
           have HF := HI.on (below_regrown wr dq osq)
           clear HI q1 q2 q3 q4 e1 xq
           generalize Sort.grow (redrawn wr dq) osq = w3 at *
           go_wp2
           go_roundw
           case rel => exact ⟨k + 1, by go_num, by omega, HF⟩
           case measure => simp [intOf]; omega)
        · obtain rfl : bd = false := by rw [HBD.out, decide_eq_false hl0, Bool.and_false]
          cases bu <;> cases b3 <;>
          (go_wp2_with fail
           refine wp_region_quiet_below (by kernel_rfl) (by kernel_rfl) ?_
           repeat (go_big_quiet_step (fail))
           go_big_quiet_step ((go_at_call 19; exact q1 _ _))
           repeat (go_big_quiet_step (fail))
           go_big_quiet_step ((go_at_call 13; exact q2 _ _))
           repeat (go_big_quiet_step (fail))
           go_big_quiet_step ((go_at_call 19; exact q3 _ _))
           repeat (go_big_quiet_step (fail))
           go_big_quiet_step ((go_at_call 13; exact q4 _ _))
           repeat (go_big_quiet_step (fail))
           refine wpQuiet_nil ?_
           intro _ hw'
           obtain ⟨⟨dq, osq⟩, hw''⟩ := hw'
           subst hw''
           have HF := HI.on (below_regrown wr dq osq)
           clear HI q1 q2 q3 q4 e1 xq
           generalize Sort.grow (redrawn wr dq) osq = w3 at *
           go_wp2
           go_roundw
           case rel => exact ⟨k + 1, by go_num, by omega, HF⟩
           case measure => simp [intOf]; omega)
      · have hki : ¬ (k : Int) < (q.length : Int) := by omega
        have xp := HI.b1.g0.1
        clear H6
        go_wp2_with fail
        refine (HR.call HI (implLowest 0 p _ cp b a HPS.out _ HI.kp)).mono ?_
        rw [lowA_flip p b a, ← HLW.out]
        rintro e u6 ⟨rfl, H7, x7, y7⟩
        go_wp2
        clear HI hki hlt xq xp
        go_loopw [12] (fun i wr => ∃ k : Nat, i = .int .i64 (k : Int) ∧ k ≤ p.length ∧ HR w pb gp cp p qb gq cq q g1 lu g2 ld wr) (fun i _ => p.length + 1 - (intOf i).toNat)
        case atStart => exact ⟨0, rfl, Nat.zero_le _, H7⟩
        case round =>
          obtain ⟨m, rfl, hm, HI⟩ := hrel
          clear H7 x7 y7
          have xp := HI.b1.g0.1
          by_cases hlt : m < p.length
          · have hki : (m : Int) < (p.length : Int) := by omega
            obtain ⟨t1, ht1⟩ : ∃ t1, t1 = undA p a m := ⟨_, rfl⟩
            have HT1 : Hid (t1 = undA p a m) := ht1
            clear ht1
            go_wp2_with fail
            refine (HR.call HI (implUnder 0 p _ cp a m HPS.out _ HI.kp)).mono ?_
            rw [← HT1.out]
            rintro e u8 ⟨rfl, H8, x8, y8⟩
            cases t1
            · go_wp2
              go_roundw
              case rel => exact ⟨m + 1, by go_num, by omega, H8⟩
              case measure => simp [intOf]; omega
            · obtain ⟨t2, ht2⟩ : ∃ t2, t2 = undA p b m := ⟨_, rfl⟩
              have HT2 : Hid (t2 = undA p b m) := ht2
              clear ht2
              go_wp2_with fail
              refine (HR.call H8 (implUnder 0 p _ cp b m HPS.out _ H8.kp)).mono ?_
              rw [← HT2.out]
              rintro e u9 ⟨rfl, H9, x9, y9⟩
              cases t2
              · go_wp2
                go_roundw
                case rel => exact ⟨m + 1, by go_num, by omega, H9⟩
                case measure => simp [intOf]; omega
              · have HT3 : Hid (undA p lw m = true) := by show _ = _; rw [HLW.out]; exact lowA_up HT1.out.symm HT2.out.symm
                go_wp2_with fail
                refine (HR.call H9 (implUnder 0 p _ cp lw m HPS.out _ H9.kp)).mono ?_
                rw [HT3.out]
                rintro e u10 ⟨rfl, H10, x10, y10⟩
                go_wp2
                go_roundw
                case rel => exact ⟨m + 1, by go_num, by omega, H10⟩
                case measure => simp [intOf]; omega
          · have hki : ¬ (m : Int) < (p.length : Int) := by omega
            by_cases hneg : lw < 0
            · go_wp2
              go_ret
              exact ⟨rfl, HI.bl⟩
            · have HLI : Hid (undA p a lw = true ∧ undA p b lw = true) := by
                show _ ∧ _
                have h := hneg
                rw [HLW.out] at h ⊢
                exact lowA_in h
              go_wp2_with fail
              refine (HR.call HI (implUnder 0 p _ cp a lw HPS.out _ HI.kp)).mono ?_
              rw [HLI.out.1]
              rintro e u8 ⟨rfl, H8, x8, y8⟩
              go_wp2_with fail
              refine (HR.call H8 (implUnder 0 p _ cp b lw HPS.out _ H8.kp)).mono ?_
              rw [HLI.out.2]
              rintro e u9 ⟨rfl, H9, x9, y9⟩
              go_wp2
              go_ret
              exact ⟨rfl, H9.bl⟩
end Pg
end Go.Proofs.Ytmbbombjlijknaa

/- Contracts of the specification's effect of a step (Sf7). -/
import Derived.Test.YtfdlljdljefkfaaGreatDoorJSf0
namespace Go.Proofs.YtfdlljdljefkfaaGreatDoor
namespace Pg
open Go.ChangeShapes Go.WideShapes Go.ChangeAt Go.RowKit St

/-- What is kept of a world's cells but one block's. -/
def At1 (W : World) (r : Nat) (x : World) : Prop := ∀ k i v, k ≠ r → k < W.heap.size → W.cell? ⟨k, i, none⟩ = some v → x.cell? ⟨k, i, none⟩ = some v
theorem At1.of {W x : World} {r : Nat} (h : Below W.heap.size W x) : At1 W r x := fun _ _ _ _ hl hc => (h.cell hl).trans hc
theorem At1.set {W x : World} {r : Nat} (h : At1 W r x) (i : Nat) (v : Value) : At1 W r (x.setCell ⟨r, i, none⟩ v) := fun k j u hk hl hc => (World.cell?_setCell_other _ _ _ _ (fun e => hk (congrArg Addr.block e).symm)).trans (h k j u hk hl hc)

set_option maxRecDepth 100000 in
set_option maxHeartbeats 4000000 in
theorem l7_2 (B : Nat) (p : Prg) (hok' : okP p = true) (hsp : SmallP p) (w : World) (pa : Option Addr) (pc : Nat) (hp : SK front B w (.slice pa p.length pc) p) (a b gives : Int) (ha0 : 0 ≤ a) (ha8 : a < 8) (z1 z2 : Option Addr) (c1 c2 : Nat) (st lo : List Int) (hst : okSt p (st, lo)) (hc1 : st.length ≤ c1) (hs : SI true B w (.slice z1 st.length c1) st) (hl : SI true B w (.slice z2 lo.length c2) lo) :
    Calls Tryz.prog 21 #[.agg #[.slice pa p.length pc], .int .i64 gives, .agg #[.int .i64 2, .int .i64 a, .int .i64 b], .agg #[.slice z1 st.length c1, .slice z2 lo.length c2]] w fun e w' => L7Post (effF p gives (2, a, b) (st, lo)) w e w' := by
  have HOKP : Hid (okP p = true) := hok'
  have HSP : Hid (SmallP p) := hsp
  have h6 : p.length ≤ 6 := (okP_len hok').2
  have hp0 : 0 < p.length := (okP_len hok').1
  have HSU : Hid (SupOk p p.length) := (ok_sup hok').sup
  have HP : Hid (SK front B w (.slice pa p.length pc) p) := hp
  have HS : Hid (SI true B w (.slice z1 st.length c1) st) := hs
  have HL : Hid (SI true B w (.slice z2 lo.length c2) lo) := hl
  obtain ⟨hst8, hlo8, hkst, hklo⟩ := okSt_iff.1 hst
  dsimp only at hst8 hlo8 hkst hklo
  have HST : Hid (st.length ≤ 8 ∧ lo.length = 8) := ⟨hst8, hlo8⟩
  have HKS : Hid (st.all (kindB p.length) = true ∧ lo.all (kindB p.length) = true) := ⟨hkst, hklo⟩
  have HBW : Hid (B ≤ w.heap.size) := si_base hl (by omega)
  obtain ⟨T1, HT1⟩ : ∃ T, Hid ((if st.length < 1 then (-3 : Int) else topF st 1) = T) := ⟨_, rfl⟩
  obtain ⟨T2, HT2⟩ : ∃ T, Hid ((if st.length < 2 then (-3 : Int) else topF st 2) = T) := ⟨_, rfl⟩
  clear hok' hsp hp hs hl hst hlo8 hkst hklo
  obtain ⟨W, hW⟩ : ∃ W, W = (((w.alloc (.cells #[.slice pa p.length pc] 37)).alloc (.cells #[.int .i64 2, .int .i64 a, .int .i64 b] 39)).alloc (.cells #[.slice z1 st.length c1, .slice z2 lo.length c2] 32)).alloc (.cells #[.slice none 0 0, .slice none 0 0] 32) := ⟨_, rfl⟩
  have hwW : Below w.heap.size w W := by rw [hW]; exact ((((Below.refl _ _).alloc (Nat.le_refl _) _).alloc (by simp) _).alloc (by simp; omega) _).alloc (by simp; omega) _
  have C0 : Hid (Cells W w.heap.size [.slice pa p.length pc]) := by rw [hW]; exact (((Cells.new w _ rfl _ _).alloc _).alloc _).alloc _
  have C1 : Hid (Cells W (w.heap.size + 1) [.int .i64 2, .int .i64 a, .int .i64 b]) := by rw [hW]; exact ((Cells.new (w.alloc _) _ (by simp) _ _).alloc _).alloc _
  have C2 : Hid (Cells W (w.heap.size + 1 + 1) [.slice z1 st.length c1, .slice z2 lo.length c2]) := by rw [hW]; exact (Cells.new ((w.alloc _).alloc _) _ (by simp) _ _).alloc _
  have R0 : Hid (Cells W (w.heap.size + 1 + 1 + 1) [.slice none 0 0, .slice none 0 0]) := by rw [hW]; exact Cells.new (((w.alloc _).alloc _).alloc _) _ (by simp) _ _
  have HZ : Hid (W.heap.size = w.heap.size + 1 + 1 + 1 + 1) := by rw [hW]; show _ = _; simp
  have CN : Hid (Cells (W.alloc (.cells #[.slice none 0 0, .slice none 0 0] 32)) W.heap.size [.slice none 0 0, .slice none 0 0]) := Cells.new W _ rfl _ _
  have hbV : Below W.heap.size W (W.alloc (.cells #[.slice none 0 0, .slice none 0 0] 32)) := (Below.refl _ _).alloc (Nat.le_refl _) _
  obtain ⟨j, rfl⟩ : ∃ j : Nat, a = (j : Int) := ⟨a.toNat, by omega⟩
  have hj8 : j < lo.length := by have := HST.out; omega
  obtain ⟨g, o, hz2, _, a0⟩ := HL.out.get hj8
  subst hz2
  obtain ⟨V, HV⟩ : ∃ V, Hid (lo.getD j 0 = V) := ⟨_, rfl⟩
  have a1 : w.cell? ⟨g, o + j, none⟩ = some (.int .i64 V) := by rw [← HV.out, List.getD_eq_getElem?_getD, List.getElem?_eq_getElem hj8]; simpa [IntAt] using a0
  have hgl := cell_lt a1
  have HWC : Hid (∀ x, At1 W (w.heap.size + 1 + 1 + 1) x → x.cell? ⟨w.heap.size + 1 + 1, 0, none⟩ = some (.slice z1 st.length c1) ∧ x.cell? ⟨w.heap.size + 1 + 1, 1, none⟩ = some (.slice (some ⟨g, o, none⟩) lo.length c2) ∧ x.cell? ⟨w.heap.size + 1, 1, none⟩ = some (.int .i64 j) ∧ x.cell? ⟨g, o + j, none⟩ = some (.int .i64 V)) := fun x hx => ⟨hx _ _ _ (by omega) (by have := HZ.out; omega) C2.out.g0.1, hx _ _ _ (by omega) (by have := HZ.out; omega) C2.out.g1.1, hx _ _ _ (by omega) (by have := HZ.out; omega) C1.out.g1.1, hx _ _ _ (by simp at hgl; omega) (by have := HZ.out; simp at hgl; omega) ((hwW.cell hgl).trans a1)⟩
  have hji : (j : Int) < (lo.length : Int) := by omega
  have HJ8 : Hid (j < lo.length) := hj8
  clear a0 a1 hgl hj8 ha0 ha8
  go_enter Tryz.func21, Tryz.ntmps21
  go_wp2_with fail
  rw [← hW]
  clear hW
  refine (l7Back_at B z1 c1 st (by omega) 1 (by omega) (by omega) W (SI.on HS.out (Keep.of hwW))).mono ?_
  rw [HT1.out]
  rintro e w1 ⟨rfl, rfl⟩
  obtain ⟨t0, _⟩ := C2.out.g0
  go_wp2_with fail
  refine (l7Back_at B z1 c1 st (by omega) 2 (by omega) (by omega) W (SI.on HS.out (Keep.of hwW))).mono ?_
  rw [HT2.out]
  rintro e w1 ⟨rfl, rfl⟩
  clear t0
  obtain ⟨i0, _⟩ := (C1.out.on hbV).g0
  obtain ⟨i1, _⟩ := (C1.out.on hbV).g1
  obtain ⟨i2, _⟩ := (C1.out.on hbV).g2
  obtain ⟨t0, _⟩ := (C2.out.on hbV).g0
  obtain ⟨t1, _⟩ := (C2.out.on hbV).g1
  obtain ⟨p0, _⟩ := (C0.out.on hbV).g0
  obtain ⟨s0, s1, s2, s3⟩ := HWC.out _ (At1.of hbV)
  by_cases hv : V = -3
  · have HEF : Hid (effF p gives (2, (j : Int), b) (st, lo) = none) := by
      show _ = _
      simp only [effF]; simp; rw [← List.getD_eq_getElem?_getD, HV.out, hv]; simp
    have RA := R0.out.on hbV
    obtain ⟨r0, q0⟩ := RA.g0
    obtain ⟨r1, q1⟩ := RA.g1
    have R5 := (RA.s0 (.slice none 0 0)).s1 (.slice none 0 0)
    obtain ⟨e0, _⟩ := R5.g0
    obtain ⟨e1, _⟩ := R5.g1
    have CNX : Cells (W.alloc (.cells #[.slice none 0 0, .slice none 0 0] 32)) W.heap.size [.slice none 0 0, .slice none 0 0] := CN.out.on (Below.refl _ _)
    obtain ⟨n0, _⟩ := CNX.g0
    obtain ⟨n1, _⟩ := CNX.g1
    have HB : Hid (Below w.heap.size w (((W.alloc (.cells #[.slice none 0 0, .slice none 0 0] 32)).setCell ⟨w.heap.size + 1 + 1 + 1, 0, none⟩ (.slice none 0 0)).setCell ⟨w.heap.size + 1 + 1 + 1, 1, none⟩ (.slice none 0 0))) := ((below_over hwW hbV).setCell (p := ⟨w.heap.size + 1 + 1 + 1, 0, none⟩) (by simp; omega) _).setCell (p := ⟨w.heap.size + 1 + 1 + 1, 1, none⟩) (by simp; omega) _
    clear RA R5 CNX 
    go_wp2
    refine bodyPost_ret (v := .tuple #[.agg #[.slice none 0 0, .slice none 0 0], .bool false]) (by simp [results, Tryz.results21, go_sem, e0, e1]) rfl ?_
    exact ⟨.inr ⟨HEF.out, none, 0, 0, none, 0, 0, rfl⟩, HB.out⟩
  · have hbhve : (V == -3) = false := by simp [hv]
    have hbhvn : (V != -3) = true := by simp [hv]
    have HEF : Hid (effF p gives (2, (j : Int), b) (st, lo) = putF lo (st.take st.length) [V]) := by
      show _ = _
      rw [put_take]; simp only [effF]; simp; rw [← List.getD_eq_getElem?_getD, HV.out]; simp [hv]
    have hW0 : Below W.heap.size W (W.alloc (.cells #[.slice none 0 0, .slice none 0 0] 32)).drew := hbV.drew
    go_wp2_with fail
    refine wp_region_held_drew (S := At1 W (w.heap.size + 1 + 1 + 1)) (by kernel_rfl) (At1.of hW0) (fun hHeld => ?_)
    generalize (W.alloc (.cells #[.slice none 0 0, .slice none 0 0] 32)).drew = X0 at hW0 hHeld ⊢
    refine wpAnyH_take (i := 0) (v := ?_) rfl (by kernel_rfl) (by kernel_rfl) (by kernel_rfl) (fun _ _ _ h => h) (Or.inl ⟨by rfl, ?_⟩) hHeld ?_
    rotate_left 1
    · intro w' hSw
      obtain ⟨s0, s1, s2, s3⟩ := HWC.out _ hSw
      go_simp
      try with_reducible rfl
    simp only [Act.put, List.getElem_toArray, List.getElem_cons_zero]
    refine wpAnyH_take (i := 1) (v := ?_) rfl (by kernel_rfl) (by kernel_rfl) (by kernel_rfl) (fun _ _ _ h => h) (Or.inl ⟨by rfl, ?_⟩) hHeld ?_
    rotate_left 1
    · intro w' hSw
      obtain ⟨s0, s1, s2, s3⟩ := HWC.out _ hSw
      go_simp
      try with_reducible rfl
    simp only [Act.put, List.getElem_toArray, List.getElem_cons_zero, List.getElem_cons_succ]
    refine wpAnyH_take (i := 2) (v := ?_) rfl (by kernel_rfl) (by kernel_rfl) (by kernel_rfl) (fun _ _ _ h => h) (Or.inl ⟨by rfl, ?_⟩) hHeld ?_
    rotate_left 1
    · intro w' hSw
      obtain ⟨s0, s1, s2, s3⟩ := HWC.out _ hSw
      go_simp
      try with_reducible rfl
    simp only [Act.put, List.getElem_toArray, List.getElem_cons_zero, List.getElem_cons_succ]
    refine wpAnyH_take (i := 3) (v := ?_) rfl (by kernel_rfl) (by kernel_rfl) (by kernel_rfl) (fun _ _ _ h => h) (Or.inl ⟨by rfl, ?_⟩) hHeld ?_
    rotate_left 1
    · intro w' hSw
      obtain ⟨s0, s1, s2, s3⟩ := HWC.out _ hSw
      go_simp
      try with_reducible rfl
    simp only [Act.put, List.getElem_toArray, List.getElem_cons_zero, List.getElem_cons_succ]
    refine wpAnyH_take (i := 4) (v := ?_) rfl (by kernel_rfl) (by kernel_rfl) (by kernel_rfl) (fun _ _ _ h => h) (Or.inl ⟨by rfl, ?_⟩) hHeld ?_
    rotate_left 1
    · intro w' hSw
      obtain ⟨s0, s1, s2, s3⟩ := HWC.out _ hSw
      go_simp
      try with_reducible rfl
    simp only [Act.put, List.getElem_toArray, List.getElem_cons_zero, List.getElem_cons_succ]
    refine wpAnyH_take (i := 5) (v := ?_) rfl (by kernel_rfl) (by kernel_rfl) (by kernel_rfl) (fun _ _ _ h => h) (Or.inl ⟨by rfl, ?_⟩) hHeld ?_
    rotate_left 1
    · intro w' hSw
      obtain ⟨s0, s1, s2, s3⟩ := HWC.out _ hSw
      go_simp
      try with_reducible rfl
    simp only [Act.put, List.getElem_toArray, List.getElem_cons_zero, List.getElem_cons_succ]
    refine wpAnyH_take (i := 6) (v := ?_) rfl (by kernel_rfl) (by kernel_rfl) (by kernel_rfl) (fun _ _ _ h => h) (Or.inl ⟨by rfl, ?_⟩) hHeld ?_
    rotate_left 1
    · intro w' hSw
      obtain ⟨s0, s1, s2, s3⟩ := HWC.out _ hSw
      go_simp
      try with_reducible rfl
    simp only [Act.put, List.getElem_toArray, List.getElem_cons_zero, List.getElem_cons_succ]
    refine wpAnyH_take (i := 7) (v := ?_) rfl (by kernel_rfl) (by kernel_rfl) (by kernel_rfl) (fun _ _ _ h => h) (Or.inl ⟨by rfl, ?_⟩) hHeld ?_
    rotate_left 1
    · intro w' hSw
      obtain ⟨s0, s1, s2, s3⟩ := HWC.out _ hSw
      go_simp
      try with_reducible rfl
    simp only [Act.put, List.getElem_toArray, List.getElem_cons_zero, List.getElem_cons_succ]
    refine wpAnyH_ready (rs := [8]) (by kernel_rfl) (by simp) ?_
    refine AllReadyH.cons rfl (fun K hK => ?_) AllReadyH.nil
    go_simp
    refine hK.out _ _ (At1.of (hW0.alloc hW0.size _)) (fun hHeld => ?_)
    clear hK K
    have HKR : Hid (SI true B (X0.alloc (.cells #[.int .i64 V] 2)) (.slice (some ⟨X0.heap.size, 0, none⟩) 1 1) [V]) := by
      have h := SI.weak (grow_lit1 X0 V).gint.si (Nat.le_trans HBW.out (Nat.le_trans hwW.size hW0.size))
      exact h
    have hhY : Below W.heap.size W (X0.alloc (.cells #[.int .i64 V] 2)) := (hW0.alloc hW0.size _)
    have HKE : Hid (st.length ≤ st.length) := Nat.le_refl _
    refine wpAnyH_ready (rs := [9]) (by kernel_rfl) (by simp) ?_
    refine AllReadyH.cons rfl (fun K hK => ?_) AllReadyH.nil
    go_simp
    refine (l7Put_at B z1 _ c1 c2 st lo (by have := HST.out; omega) (by have := HST.out; omega) hc1 st.length HKE.out 1 [V] (by simp) (X0.alloc (.cells #[.int .i64 V] 2)) (SI.on HS.out (Keep.of (below_over hwW hhY))) (SI.on HL.out (Keep.of (below_over hwW hhY))) (some ⟨X0.heap.size, 0, none⟩) HKR.out).mono ?_
    rintro e w5 ⟨x1, y1, x2, y2, rfl, hown, hb5⟩
    have hW5 : Below W.heap.size W w5 := below_over hhY hb5
    have RA := R0.out.on hW5
    obtain ⟨r0, q0⟩ := RA.g0
    obtain ⟨r1, q1⟩ := RA.g1
    obtain ⟨LL, hLL⟩ : ∃ LL, LL = (st.take st.length ++ [V]).length := ⟨_, rfl⟩
    rw [← hLL] at hown
    rw [← hLL]
    have HLL : Hid (LL = (st.take st.length ++ [V]).length) := hLL
    have HOW : Hid (OwnS w.heap.size ((w5.setCell ⟨w.heap.size + 1 + 1 + 1, 0, none⟩ (.slice x1 LL y1)).setCell ⟨w.heap.size + 1 + 1 + 1, 1, none⟩ (.slice x2 lo.length y2)) (.slice x1 LL y1) (.slice x2 lo.length y2) (st.take st.length ++ [V], lo)) := own_cell2 hown (by have := HZ.out; have := hhY.size; omega) (by have := HZ.out; have := hhY.size; omega)
    have HBE : Hid (Below w.heap.size w ((w5.setCell ⟨w.heap.size + 1 + 1 + 1, 0, none⟩ (.slice x1 LL y1)).setCell ⟨w.heap.size + 1 + 1 + 1, 1, none⟩ (.slice x2 lo.length y2))) := ((below_over hwW hW5).setCell (p := ⟨w.heap.size + 1 + 1 + 1, 0, none⟩) (by simp; omega) _).setCell (p := ⟨w.heap.size + 1 + 1 + 1, 1, none⟩) (by simp; omega) _
    have R5 := (RA.s0 (.slice x1 LL y1)).s1 (.slice x2 lo.length y2)
    obtain ⟨e0, _⟩ := R5.g0
    obtain ⟨e1, _⟩ := R5.g1
    clear RA R5 hown hLL hb5 hhY 
    dsimp only
    refine hK.out _ _ (At1.of hW5) (fun hHeld => ?_)
    clear hK K
    refine wpAnyH_take (i := 10) (v := ?_) rfl (by kernel_rfl) (by kernel_rfl) (by kernel_rfl) (fun _ _ _ h => h) (Or.inl ⟨by rfl, ?_⟩) hHeld ?_
    rotate_left 1
    · intro w' hSw
      obtain ⟨s0, s1, s2, s3⟩ := HWC.out _ hSw
      go_simp
      try with_reducible rfl
    simp only [Act.put, List.getElem_toArray, List.getElem_cons_zero, List.getElem_cons_succ]
    refine wpAnyH_take (i := 11) (v := ?_) rfl (by kernel_rfl) (by kernel_rfl) (by kernel_rfl) (fun _ _ _ h => h) (Or.inl ⟨by rfl, ?_⟩) hHeld ?_
    rotate_left 1
    · intro w' hSw
      obtain ⟨s0, s1, s2, s3⟩ := HWC.out _ hSw
      go_simp
      try with_reducible rfl
    simp only [Act.put, List.getElem_toArray, List.getElem_cons_zero, List.getElem_cons_succ]
    refine wpAnyH_ready (rs := [12]) (by kernel_rfl) (by simp) ?_
    refine AllReadyH.cons rfl (fun K hK => ?_) AllReadyH.nil
    go_simp
    refine hK.out _ _ (((At1.of hW5).set _ _).set _ _) (fun hHeld => ?_)
    clear hK K
    refine wpAnyH_ready (rs := [13]) (by kernel_rfl) (by simp) ?_
    refine AllReadyH.cons rfl (fun K hK => ?_) AllReadyH.nil
    go_simp
    refine hK.out _ _ (((At1.of hW5).set _ _).set _ _) (fun hHeld => ?_)
    clear hK K
    refine wpAnyH_done (by kernel_rfl) ?_ _
    go_wp2
    refine bodyPost_ret (v := .tuple #[.agg #[.slice x1 LL y1, .slice x2 lo.length y2], .bool (decide (LL ≤ 8))]) (by simp [results, Tryz.results21, go_sem, e0, e1]) rfl ?_
    have hLL := HLL.out
    subst hLL
    exact l7_end HEF.out HOW.out HBE.out
end Pg
end Go.Proofs.YtfdlljdljefkfaaGreatDoor

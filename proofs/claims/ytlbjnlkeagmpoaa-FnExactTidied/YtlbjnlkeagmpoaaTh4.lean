/- Contracts: what stays, the specification's side. -/
import Derived.Test.YtlbjnlkeagmpoaaTh1
import Derived.Test.YtlbjnlkeagmpoaaDe2
import Derived.Test.YtlbjnlkeagmpoaaNx7
import Derived.Deep.QuietTactic
import Derived.BigQuiet
import Derived.Deep.Cut
namespace Go.Proofs.Ytlbjnlkeagmpoaa
namespace Pg
open Go.ChangeShapes Go.WideShapes Go.ChangeAt Go.RowKit St

def stP (code : List Tx.Ins) (r : List Int) : List Int := r.filter fun x => !(nxtB code x.toNat)
theorem stP_all {code : List Tx.Ins} : stP code (risL (rchB code) 40) = risL (stB code) 40 := by
  unfold stP risL
  rw [List.filter_map, List.filter_filter]
  congr 1
  refine List.filter_congr fun j _ => ?_
  simp [stB, Bool.and_comm]
theorem stP_succ {code : List Tx.Ins} {r : List Int} {k : Nat} (hk : k < r.length) : stP code (r.take (k + 1)) = stP code (r.take k) ++ (if nxtB code r[k].toNat then [] else [r[k]]) := by
  unfold stP
  rw [List.take_succ_eq_append_getElem hk, List.filter_append]
  congr 1
  cases h : nxtB code r[k].toNat <;> simp [h]
theorem stP_len {code : List Tx.Ins} {r : List Int} {k : Nat} : (stP code (r.take k)).length ≤ k := by
  have h1 := List.length_filter_le (fun x : Int => !(nxtB code x.toNat)) (r.take k)
  have h2 : (r.take k).length ≤ k := by simp; omega
  unfold stP
  omega
set_option maxRecDepth 100000 in
set_option maxHeartbeats 4000000 in
theorem l12Stays_at (g yc : Nat) (code : List Tx.Ins) (hok : Lay.codeOk code = true) (w : World) (hrow : Row w g 0 code) :
    Calls Try.prog 36 #[.slice (some ⟨g, 0, none⟩) code.length yc] w fun e w' => ∃ v, e = .returned v ∧ Grow w.heap.size w' v (risL (stB code) 40) ∧ Below w.heap.size w w' := by
  obtain ⟨i0, hif, hz0, hz1, hz2⟩ := info_parts infoN
  have hl40 := (Lay.ok_len hok).2
  have hl0 := (Lay.ok_len hok).1
  have HR : Hid (Row w g 0 code) := hrow
  have HOK : Hid (Lay.codeOk code = true) := hok
  have hb0 : Below w.heap.size w (w.alloc (.cells #[] 2)) := (Below.refl _ _).alloc (Nat.le_refl _) _
  have HG0 : Hid (Grow w.heap.size (w.alloc (.cells #[] 2)) (.slice (some ⟨w.heap.size, 0, none⟩) 0 0) []) := grow_start w
  clear hrow hok
  go_enter Try.func36, Try.ntmps36
  go_wp2_with fail
  refine (l9Reached_at g yc code HOK.out _ (HR.out.on hb0)).mono ?_
  rintro e w2 ⟨vr, rfl, hlr, hb2⟩
  obtain ⟨gr, cr, rfl, hcr, hgr, hrr⟩ := hlr
  have hngr : gr ≠ w.heap.size := not_empty hb2 hrr rch_pos
  have HRR : Hid (IRow w2 gr 0 (risL (rchB code) 40)) := hrr
  have hw2 : Below w.heap.size w w2 := below_over hb0 hb2
  have HRM : Hid (∀ x ∈ risL (rchB code) 40, ∃ j : Nat, j < code.length ∧ x = (j : Int)) := fun x hx => by
    obtain ⟨j, _, hj, e⟩ := risL_mem.1 hx
    exact ⟨j, (rchB_iff.1 hj).lt hl0, e⟩
  have hr40 : (risL (rchB code) 40).length ≤ 40 := risL_len _ _
  have HG2 : Hid (GrowD w.heap.size gr gr w2 (.slice (some ⟨w.heap.size, 0, none⟩) 0 0) (stP code ((risL (rchB code) 40).take 0))) := ⟨by rw [List.take_zero]; exact HG0.out.on hb2, by show some w.heap.size ≠ some gr; intro h; injection h with h; exact hngr h.symm, by show some w.heap.size ≠ some gr; intro h; injection h with h; exact hngr h.symm⟩
  have HALL : Hid (stP code (risL (rchB code) 40) = risL (stB code) 40) := stP_all
  clear hrr hb2 HG0 hngr hb0 hcr
  generalize risL (rchB code) 40 = r at *
  go_wp2_with fail
  go_loopw [3, 5] (fun v i wr => ∃ k : Nat, k ≤ r.length ∧ i = .int .i64 k ∧ Hid (GrowD w.heap.size gr gr wr v (stP code (r.take k))) ∧ gr < wr.heap.size ∧ Hid (IRow wr gr 0 r) ∧ Below w.heap.size w wr) (fun _ i _ => r.length - (intOf i).toNat)
  case atStart => exact ⟨0, Nat.zero_le _, rfl, HG2.out, hgr, HRR.out, hw2⟩
  case round =>
    clear HG2 HRR hw2 hgr
    obtain ⟨k, hk, rfl, hg, hgr, hrr, hb⟩ := hrel
    obtain ⟨ga, ca, rfl⟩ := hg.out.1.form
    by_cases hlt : k < r.length
    · have hki : (k : Int) < (r.length : Int) := by omega
      have HST : Hid (stP code (r.take (k + 1)) = stP code (r.take k) ++ (if nxtB code r[k].toNat then [] else [r[k]])) := stP_succ hlt
      obtain ⟨j, hj, hxj⟩ := HRM.out _ (List.getElem_mem hlt)
      rw [hxj, Int.toNat_natCast] at HST
      have c0 := hrr.out k _ (List.getElem?_eq_getElem hlt)
      rw [Nat.zero_add, hxj] at c0
      have HLN : Hid ((stP code (r.take k)).length ≤ k) := stP_len
      have hji : (j : Int) < (code.length : Int) := by omega
      have hj0 : (0 : Int) ≤ (j : Int) := by omega
      have hj41 : (j : Int) + 1 < 100 := by omega
      obtain ⟨d0, d1, d2⟩ := (HR.out.on hb) j _ (ins_is hj)
      have HNB : Hid (nxtB code j = (decide ((insF code j).1 = 11) && decide ((insF code j).2.1 = (j : Int) + 1))) := rfl
      generalize insF code j = ins at *
      obtain ⟨op, A, b⟩ := ins
      dsimp only at d0 d1 d2 HNB
      simp only [Nat.zero_add] at d0 d1 d2
      obtain ⟨X0, hX0⟩ : ∃ X0, X0 = (wr.alloc (.cells #[.int .i64 op, .int .i64 A, .int .i64 b] 38)) := ⟨_, rfl⟩
      have hb0 : Below wr.heap.size wr X0 := by rw [hX0]; exact (Below.refl _ _).alloc (Nat.le_refl _) _
      have BX0 : Cells X0 wr.heap.size [.int .i64 op, .int .i64 A, .int .i64 b] := by rw [hX0]; exact Cells.new wr _ rfl _ _
      have HX0 : Hid (X0 = wr.alloc (.cells #[.int .i64 op, .int .i64 A, .int .i64 b] 38)) := hX0
      obtain ⟨e0, _⟩ := BX0.g0
      obtain ⟨e1, _⟩ := BX0.g1
      have c1 := (hrr.out.on hb0) k _ (List.getElem?_eq_getElem hlt)
      rw [Nat.zero_add, hxj] at c1
      have HQQ : Hid (∀ n, GrowD w.heap.size gr gr (X0.drewN n) (.slice (some ⟨ga, 0, none⟩) (stP code (r.take k)).length ca) (stP code (r.take k)) ∧ IRow (X0.drewN n) gr 0 r ∧ (X0.drewN n).cell? ⟨gr, k, none⟩ = some (.int .i64 (j : Int)) ∧ gr < (X0.drewN n).heap.size ∧ Below w.heap.size w (X0.drewN n)) := fun n => by
        have hb1 : Below wr.heap.size wr (X0.drewN n) := below_over hb0 ⟨rfl, rfl, rfl, Nat.le_refl _, fun _ _ => rfl⟩
        have h2 := (hrr.out.on hb1) k _ (List.getElem?_eq_getElem hlt)
        rw [Nat.zero_add, hxj] at h2
        exact ⟨⟨hg.out.1.on hb1, hg.out.2⟩, hrr.out.on hb1, h2, Nat.lt_of_lt_of_le hgr hb1.size, below_over hb hb1⟩
      clear hX0 hg hrr hb hb0 hgr BX0
      go_upto_region 7 with fail
      rw [← HX0.out]
      clear HX0 c0 d0 d1 d2
      generalize wr.heap.size = bi at *
      cases hn : nxtB code j
      · rw [hn, if_neg (by simp)] at HST
        have HPO : (op != 11) = true ∨ (op = 11 ∧ (A != (j : Int) + 1) = true) := by
          rw [HNB.out] at hn
          by_cases h : op = 11
          · refine .inr ⟨h, ?_⟩
            simpa [h] using hn
          · exact .inl (by simp [h])
        clear HNB hn
        rcases HPO with hp | ⟨rfl, hp⟩
        · clear hxj
          go_quiet (fail)
          obtain ⟨qG, qR, c2, hgr1, hwX⟩ := HQQ.out nq
          generalize X0.drewN nq = X1 at *
          have G1 : Hid (GrowD w.heap.size gr gr X1 (.slice (some ⟨ga, 0, none⟩) (stP code (r.take k)).length ca) (stP code (r.take k))) := qG
          have R1 : Hid (IRow X1 gr 0 r) := qR
          have HB : Hid (w.heap.size ≤ X1.heap.size) := hwX.size
          clear qG qR HQQ
          clear hp e0 e1 c1
          go_wp2_with (at_builtin; refine wpList_append_own_at _ rfl _ _ 32 rfl w.heap.size 2 i0 (.int .i64 0) 1 8 Try.underlying32 hif hz0 hz1 hz2 rfl (by decide) _ _ _ rfl (G1.out.1.1.alloc _) ⟨X1.heap.size, 0, none⟩ 1 1 [.int .i64 (j : Int)] rfl rfl (cell_one_new _ _ _) (by simp [Value.oneCell']) (by have := HLN.out; unfold maxLen; omega) (by have := HLN.out; omega) (by have := HB.out; simp; omega) ?_)
          intro v1 w4 hown1 hgrow1 hnil1 hat
          have hb4 : Below w.heap.size w w4 := (hwX.alloc hwX.size _).grown hgrow1 (by have := HB.out; simp; omega) (fun q hq => by simp [Value.ownBlock] at hq; subst hq; exact (G1.out.1.1.lt ga rfl).1)
          have hne2 : ga ≠ gr := fun h => G1.out.2.2 (by rw [h]; rfl)
          have hzw : (X1.alloc (Obj.cells #[.int .i64 (j : Int)] 2)).heap.size = X1.heap.size + 1 := by simp
          have HG : Hid (GrowD w.heap.size gr gr w4 v1 (stP code (r.take (k + 1)))) := by
            show GrowD _ _ _ _ _ _
            have h2 : v1.ownBlock ≠ some gr := by
              rcases hat with h | h
              · rw [h]; exact G1.out.2.2
              · rw [h]; intro h2; injection h2 with h2; omega
            refine ⟨?_, h2, h2⟩
            rw [HST.out]
            exact grow_next hown1 (fun h => hnil1 h)
          have R4 : Hid (IRow w4 gr 0 r) := by
            refine irow_blkD (w := X1.alloc (.cells #[.int .i64 (j : Int)] 2)) (R1.out.on ((Below.refl _ _).alloc (Nat.le_refl _) _)) ?_
            refine hgrow1.block gr (by omega) ?_
            intro h
            exact hne2 (by simpa [Value.ownBlock] using h.symm)
          have hsz := hgrow1.size
          have hgr4 : gr < w4.heap.size := by omega
          clear hown1 hgrow1 hnil1 hat G1 HST R1 hwX HB hgr1 hsz hzw c2
          go_wp2
          go_roundw
          case rel => exact ⟨k + 1, by omega, by go_num, HG.out, hgr4, R4.out, hb4⟩
          case measure => simp [intOf]; omega
        · clear hxj
          go_quiet (fail)
          obtain ⟨qG, qR, c2, hgr1, hwX⟩ := HQQ.out nq
          generalize X0.drewN nq = X1 at *
          have G1 : Hid (GrowD w.heap.size gr gr X1 (.slice (some ⟨ga, 0, none⟩) (stP code (r.take k)).length ca) (stP code (r.take k))) := qG
          have R1 : Hid (IRow X1 gr 0 r) := qR
          have HB : Hid (w.heap.size ≤ X1.heap.size) := hwX.size
          clear qG qR HQQ
          clear hp e0 e1 c1
          go_wp2_with (at_builtin; refine wpList_append_own_at _ rfl _ _ 32 rfl w.heap.size 2 i0 (.int .i64 0) 1 8 Try.underlying32 hif hz0 hz1 hz2 rfl (by decide) _ _ _ rfl (G1.out.1.1.alloc _) ⟨X1.heap.size, 0, none⟩ 1 1 [.int .i64 (j : Int)] rfl rfl (cell_one_new _ _ _) (by simp [Value.oneCell']) (by have := HLN.out; unfold maxLen; omega) (by have := HLN.out; omega) (by have := HB.out; simp; omega) ?_)
          intro v1 w4 hown1 hgrow1 hnil1 hat
          have hb4 : Below w.heap.size w w4 := (hwX.alloc hwX.size _).grown hgrow1 (by have := HB.out; simp; omega) (fun q hq => by simp [Value.ownBlock] at hq; subst hq; exact (G1.out.1.1.lt ga rfl).1)
          have hne2 : ga ≠ gr := fun h => G1.out.2.2 (by rw [h]; rfl)
          have hzw : (X1.alloc (Obj.cells #[.int .i64 (j : Int)] 2)).heap.size = X1.heap.size + 1 := by simp
          have HG : Hid (GrowD w.heap.size gr gr w4 v1 (stP code (r.take (k + 1)))) := by
            show GrowD _ _ _ _ _ _
            have h2 : v1.ownBlock ≠ some gr := by
              rcases hat with h | h
              · rw [h]; exact G1.out.2.2
              · rw [h]; intro h2; injection h2 with h2; omega
            refine ⟨?_, h2, h2⟩
            rw [HST.out]
            exact grow_next hown1 (fun h => hnil1 h)
          have R4 : Hid (IRow w4 gr 0 r) := by
            refine irow_blkD (w := X1.alloc (.cells #[.int .i64 (j : Int)] 2)) (R1.out.on ((Below.refl _ _).alloc (Nat.le_refl _) _)) ?_
            refine hgrow1.block gr (by omega) ?_
            intro h
            exact hne2 (by simpa [Value.ownBlock] using h.symm)
          have hsz := hgrow1.size
          have hgr4 : gr < w4.heap.size := by omega
          clear hown1 hgrow1 hnil1 hat G1 HST R1 hwX HB hgr1 hsz hzw c2
          go_wp2
          go_roundw
          case rel => exact ⟨k + 1, by omega, by go_num, HG.out, hgr4, R4.out, hb4⟩
          case measure => simp [intOf]; omega
      · rw [hn, if_pos rfl, List.append_nil] at HST
        rw [HNB.out] at hn
        simp only [Bool.and_eq_true, decide_eq_true_eq] at hn
        obtain ⟨rfl, rfl⟩ := hn
        clear HNB hxj
        go_quiet (fail)
        obtain ⟨qG, qR, c2, hgr1, hwX⟩ := HQQ.out nq
        generalize X0.drewN nq = X1 at *
        have G1 : Hid (GrowD w.heap.size gr gr X1 (.slice (some ⟨ga, 0, none⟩) (stP code (r.take k)).length ca) (stP code (r.take k))) := qG
        have R1 : Hid (IRow X1 gr 0 r) := qR
        have HB : Hid (w.heap.size ≤ X1.heap.size) := hwX.size
        clear qG qR HQQ
        have HG : Hid (GrowD w.heap.size gr gr X1 (.slice (some ⟨ga, 0, none⟩) (stP code (r.take k)).length ca) (stP code (r.take (k + 1)))) := by show GrowD _ _ _ _ _ _; rw [HST.out]; exact G1.out
        clear HST G1 c2 HB e0 e1 c1
        go_wp2
        go_roundw
        case rel => exact ⟨k + 1, by omega, by go_num, HG.out, hgr1, R1.out, hwX⟩
        case measure => simp [intOf]; omega
    · obtain rfl : k = r.length := by omega
      have HG : Hid (Grow w.heap.size wr (.slice (some ⟨ga, 0, none⟩) (stP code (r.take r.length)).length ca) (risL (stB code) 40)) := by show Grow _ _ _ _; rw [← HALL.out]; have := hg.out.1; rw [List.take_length] at this ⊢; exact this
      clear hg hrr
      go_wp2
      go_ret
      exact ⟨_, rfl, HG.out, hb⟩
set_option maxRecDepth 100000 in
set_option maxHeartbeats 1000000 in
theorem specStays (g cap : Nat) (l : List Tx.Ins) (hl : l.length ≤ 1048576) (w : World) (hr : Row w g 0 l) :
    Calls Try.prog 17 #[.slice (some ⟨g, 0, none⟩) l.length cap] w fun e w' => ∃ x, e = .returned x ∧ Lst w' x (staA l) ∧ Below w.heap.size w w' := by
  have HR : Hid (Row w g 0 l) := hr
  clear hr
  go_enter Try.func17, Try.ntmps17
  go_wp2_with fail
  refine (specCodeOk g cap l hl w HR.out).mono ?_
  rintro e w1 ⟨rfl, hb1⟩
  cases hok : Lay.codeOk l
  · have HE : Hid (staA l = []) := by show _ = _; simp [staA, hok]
    clear hok
    go_wp2
    go_ret
    exact ⟨_, rfl, by rw [HE.out]; exact (grow_start w1).lst, hb1.alloc hb1.size _⟩
  · have HE : Hid (staA l = risL (stB l) 40) := by show _ = _; simp [staA, hok]
    go_wp2_with fail
    refine (l12Stays_at g cap l hok w1 (HR.out.on hb1)).mono ?_
    rintro e w2 ⟨v, rfl, hg, hb2⟩
    have hw2 : Below w.heap.size w w2 := below_over hb1 hb2
    have HG : Hid (Grow w.heap.size w2 v (risL (stB l) 40)) := hg.base' hb1.size
    clear hg hb2 hok hb1
    go_wp2
    go_ret
    exact ⟨_, rfl, by rw [HE.out]; exact HG.out.lst, hw2⟩
end Pg
end Go.Proofs.Ytlbjnlkeagmpoaa

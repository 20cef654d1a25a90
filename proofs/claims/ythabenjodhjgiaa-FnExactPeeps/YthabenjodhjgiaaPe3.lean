/- Contracts: the program's PeepAt, Peeps and PeepedAll. -/
import Derived.Test.YthabenjodhjgiaaPe2
import Derived.Deep.Cut
namespace Go.Proofs.Ythabenjodhjgiaa
namespace Pg
open Go.ChangeShapes Go.WideShapes Go.ChangeAt Go.RowKit St Wd

set_option maxRecDepth 100000 in
set_option maxHeartbeats 2000000 in
theorem peepsIn_at (g yc : Nat) (code : List Tx.Ins) (hok : Lay.codeOk code = true) (w : World) (hrow : Row w g 0 code) :
    Calls Try.prog 51 #[.slice (some ⟨g, 0, none⟩) code.length yc] w fun e w' => e = .returned (.agg (chi 40 (peepB code)).toArray) ∧ Below w.heap.size w w' := by
  have hl40 := (Lay.ok_len hok).2
  have hli : (code.length : Int) ≤ 40 := by omega
  have HR : Hid (Row w g 0 code) := hrow
  have HOK : Hid (Lay.codeOk code = true) := hok
  obtain ⟨W, hW⟩ : ∃ W, W = (w.alloc (.cells (chi 40 fun _ => false).toArray 57)).alloc (.cells (chi 40 fun _ => false).toArray 57) := ⟨_, rfl⟩
  have hwW : Below w.heap.size w W := by rw [hW]; exact ((Below.refl _ _).alloc (Nat.le_refl _) _).alloc (by simp) _
  have hsW : W.heap.size = w.heap.size + 2 := by rw [hW]; simp
  have HSW : Hid (W.heap.size = w.heap.size + 2) := hsW
  have C0 : Hid (Cells W w.heap.size (chi 40 fun _ => false)) := by show Cells _ _ _; rw [hW]; exact (Cells.new w _ rfl _ _).alloc _
  have C1 : Hid (Cells W (w.heap.size + 1) (chi 40 fun _ => false)) := by show Cells _ _ _; rw [hW]; exact Cells.new (w.alloc _) _ (by simp) _ _
  have HW : Hid (W = (w.alloc (.cells (chi 40 fun _ => false).toArray 57)).alloc (.cells (chi 40 fun _ => false).toArray 57)) := hW
  clear hW hrow hok hsW
  go_enter Try.func51, Try.ntmps51
  go_wp2_with (with_reducible refine wpList_alloc_chi rfl 57 rfl 40 zeroS ?_)
  rw [← HW.out]
  clear HW
  refine (leadersIn_at g yc code HOK.out W (HR.out.on hwW)).mono ?_
  rintro e w1 ⟨rfl, hb1⟩
  have hw1 : Below w.heap.size w w1 := below_over hwW hb1
  have D0 : Hid (Cells w1 w.heap.size (chi 40 fun _ => false)) := C0.out.on hb1
  have D1 : Hid (Cells w1 (w.heap.size + 1) (chi 40 fun _ => false)) := C1.out.on hb1
  have hz1 : w.heap.size + 1 < w1.heap.size := D1.out.lt' (by decide)
  clear C0 C1 hb1 hwW HSW
  have CL : Hid (Cells (w1.alloc (.cells (chi 40 fun _ => false).toArray 57)) w1.heap.size (chi 40 fun _ => false)) := Cells.new w1 _ rfl _ _
  have E0 : Hid (Cells ((w1.alloc (.cells (chi 40 fun _ => false).toArray 57)).setCells w1.heap.size 0 (chi 40 (ldB code code.length))) w.heap.size (chi 40 fun _ => false)) := (D0.out.alloc _).putFar _ (by omega)
  have E1 : Hid (Cells ((w1.alloc (.cells (chi 40 fun _ => false).toArray 57)).setCells w1.heap.size 0 (chi 40 (ldB code code.length))) (w.heap.size + 1) (chi 40 fun _ => false)) := (D1.out.alloc _).putFar _ (by omega)
  have E4 : Hid (Cells ((w1.alloc (.cells (chi 40 fun _ => false).toArray 57)).setCells w1.heap.size 0 (chi 40 (ldB code code.length))) w1.heap.size (chi 40 (ldB code code.length))) := CL.out.put (by rw [chi_len, chi_len])
  have hbE : Below w.heap.size w ((w1.alloc (.cells (chi 40 fun _ => false).toArray 57)).setCells w1.heap.size 0 (chi 40 (ldB code code.length))) := below_setCells hw1.size _ _ (hw1.alloc hw1.size _)
  have HCO : Hid (∀ v ∈ chi 40 (ldB code code.length), v.oneCell' = true) := chi_one _ _
  clear D0 D1 hw1
  go_wp2_with (first
    | (with_reducible refine wpList_alloc_chi rfl 57 rfl 40 zeroS ?_)
    | (with_reducible refine wpList_store_mid rfl 57 (.tmp 4) (.tmp 7) rfl w1.heap.size 0 (chi 40 (ldB code code.length)).toArray (by simp [Act.eval, Act.put]) (by simp [Act.eval, Act.put]) (CL.out.there (by simp [chi_len])) (by rw [infoS]; simp [chi_len]) (all_oneCell_toArray HCO.out) ?_))
  clear CL HCO
  generalize (w1.alloc (.cells (chi 40 fun _ => false).toArray 57)).setCells w1.heap.size 0 (chi 40 (ldB code code.length)) = X at *
  generalize w1.heap.size = b4 at *
  go_loopw [10] (fun i wr => ∃ k : Nat, k ≤ code.length ∧ i = .int .i64 k ∧ Hid (Cells wr w.heap.size (chi 40 fun _ => false)) ∧ Hid (Cells wr (w.heap.size + 1) (chi 40 fun j => decide (j < k) && peepB code j)) ∧ Hid (Cells wr b4 (chi 40 (ldB code code.length))) ∧ Below w.heap.size w wr) (fun i _ => code.length - (intOf i).toNat)
  case atStart => exact ⟨0, Nat.zero_le _, rfl, E0.out, by show Cells _ _ _; rw [chi_congr (Q := fun _ => false) (fun j _ => by simp)]; exact E1.out, E4.out, hbE⟩
  case round =>
    clear E0 E1 E4 hbE
    obtain ⟨k, hk, rfl, hc0, hc1, hc4, hb⟩ := hrel
    by_cases hlt : k < code.length
    · have hki : (k : Int) < (code.length : Int) := by omega
      have hk40 : (k : Int) < 40 := by omega
      have HCL : Hid ((chi 40 (ldB code code.length)).length = 40) := chi_len _ _
      have hcall := isPeep_at g yc code HOK.out (k : Int) wr (HR.out.on hb)
      generalize hcs : chi 40 (ldB code code.length) = cs at *
      clear hcs
      go_wp2_with (with_reducible refine wpList_load_mid rfl 57 (.tmp 4) rfl b4 0 (by simp [Act.eval]) cs _ hc4.out.range Try.underlying57 rfl (by rw [infoS, HCL.out]) ?_)
      refine hcall.mono ?_
      clear hcall
      rw [isPeepB_all]
      rintro e w2 ⟨rfl, hb2⟩
      have F0 : Hid (Cells w2 w.heap.size (chi 40 fun _ => false)) := hc0.out.on hb2
      have F1 : Hid (Cells w2 (w.heap.size + 1) (chi 40 fun j => decide (j < k) && peepB code j)) := hc1.out.on hb2
      have F4 : Hid (Cells w2 b4 cs) := hc4.out.on hb2
      have hw2 : Below w.heap.size w w2 := below_over hb hb2
      clear hc0 hc1 hc4 hb hb2
      obtain ⟨s0, z0⟩ := F1.out k _ (chi_at _ (by omega))
      have G0 : Hid (Cells (w2.setCell ⟨w.heap.size + 1, k, none⟩ (.bool (peepB code k))) w.heap.size (chi 40 fun _ => false)) := F0.out.far _ _ (by simp)
      have G1 : Hid (Cells (w2.setCell ⟨w.heap.size + 1, k, none⟩ (.bool (peepB code k))) (w.heap.size + 1) (chi 40 fun j => decide (j < k + 1) && peepB code j)) := by
        show Cells _ _ _
        have h := F1.out.set k (.bool (peepB code k))
        rw [chi_set] at h
        rw [chi_congr (Q := fun j => if j = k then peepB code k else (decide (j < k) && peepB code j)) (fun j _ => by
          by_cases e : j = k
          · subst e; simp
          · rw [if_neg e, show decide (j < k + 1) = decide (j < k) from by by_cases h : j < k <;> simp [h] <;> omega])]
        exact h
      have G4 : Hid (Cells (w2.setCell ⟨w.heap.size + 1, k, none⟩ (.bool (peepB code k))) b4 cs) := F4.out.far _ _ (by show w.heap.size + 1 ≠ b4; omega)
      have hw3 : Below w.heap.size w (w2.setCell ⟨w.heap.size + 1, k, none⟩ (.bool (peepB code k))) := hw2.setCell (by show w.heap.size ≤ w.heap.size + 1; omega) _
      clear F0 F1 F4 hw2
      generalize peepB code k = bk at *
      go_wp2
      go_roundw
      case rel => exact ⟨k + 1, by omega, by go_num, G0.out, G1.out, G4.out, hw3⟩
      case measure => simp [intOf]; omega
    · obtain rfl : k = code.length := by omega
      have HC1 : Hid (Cells wr (w.heap.size + 1) (chi 40 (peepB code))) := by
        show Cells _ _ _
        rw [chi_congr (Q := fun j => decide (j < code.length) && peepB code j) (fun j _ => by
          cases hp : peepB code j
          · simp
          · have := peepB_lt hp; simp; omega)]
        exact hc1.out
      clear hc1 hc4
      have HCL : Hid ((chi 40 (peepB code)).length = 40) := chi_len _ _
      have HCO : Hid (∀ v ∈ chi 40 (peepB code), v.oneCell' = true) := chi_one _ _
      have HC2 : Hid (Cells (wr.setCells w.heap.size 0 (chi 40 (peepB code))) w.heap.size (chi 40 (peepB code))) := hc0.out.put (by rw [chi_len, chi_len])
      have hb2 : Below w.heap.size w (wr.setCells w.heap.size 0 (chi 40 (peepB code))) := below_setCells (Nat.le_refl _) _ _ hb
      clear hb
      generalize hcs : chi 40 (peepB code) = cs at *
      have HCS : Hid (chi 40 (peepB code) = cs) := hcs
      clear hcs
      go_wp2_with (first
        | (with_reducible refine wpList_load_mid rfl 57 (.tmp 3) rfl (w.heap.size + 1) 0 (by simp [Act.eval, Act.put]) cs _ HC1.out.range Try.underlying57 rfl (by rw [infoS, HCL.out]) ?_)
        | (with_reducible refine wpList_store_mid rfl 57 (.tmp 2) (.tmp 20) rfl w.heap.size 0 cs.toArray (by simp [Act.eval, Act.put]) (by simp [Act.eval, Act.put]) (hc0.out.there (by rw [chi_len]; simpa using HCL.out)) (by rw [infoS]; simpa using HCL.out.symm) (all_oneCell_toArray HCO.out) ?_))
      (try simp only [Exit.inBlock, Exit.then])
      refine bodyPost_ret (ret_cell rfl rfl HC2.out.range Try.underlying57 rfl (by rw [infoS, HCL.out])) rfl ?_
      exact ⟨by rw [HCS.out], hb2⟩
set_option maxRecDepth 100000 in
set_option maxHeartbeats 1000000 in
theorem implPeeps (g cap : Nat) (l : List Tx.Ins) (hl : l.length ≤ 1048576) (w : World) (hr : Row w g 0 l) :
    Calls Try.prog 26 #[.slice (some ⟨g, 0, none⟩) l.length cap] w fun e w' => ∃ x, e = .returned x ∧ GInt w.heap.size w' x (pepsA l) ∧ Below w.heap.size w w' := by
  have HR : Hid (Row w g 0 l) := hr
  clear hr
  go_enter Try.func26, Try.ntmps26
  go_wp2_with fail
  refine (implCodeOk g cap l hl w HR.out).mono ?_
  rintro e w1 ⟨rfl, hb1⟩
  cases hok : Lay.codeOk l
  · have HE : Hid (pepsA l = []) := by show _ = _; simp [pepsA, hok]
    clear hok
    go_wp2
    go_ret
    exact ⟨_, rfl, by rw [HE.out]; exact ((grow_start w1).base' hb1.size).gint, hb1.alloc hb1.size _⟩
  · have HE : Hid (pepsA l = risL (peepB l) 40) := by show _ = _; simp [pepsA, hok]
    go_wp2_with fail
    refine (peepsIn_at g cap l hok w1 (HR.out.on hb1)).mono ?_
    rintro e w2 ⟨rfl, hb2⟩
    have hw2 : Below w.heap.size w w2 := below_over hb1 hb2
    clear hb1 hb2
    go_wp2_with fail
    refine (rising_at (peepB l) w2).mono ?_
    rintro e w3 ⟨v, rfl, hg, hb3⟩
    have hw3 : Below w.heap.size w w3 := below_over hw2 hb3
    have HG : Hid (Grow w.heap.size w3 v (risL (peepB l) 40)) := hg.base' hw2.size
    clear hg hb3 hok
    go_wp2
    go_ret
    exact ⟨_, rfl, by rw [HE.out]; exact HG.out.gint, hw3⟩
set_option maxRecDepth 100000 in
set_option maxHeartbeats 1000000 in
theorem implPeepAt (g cap : Nat) (l : List Tx.Ins) (n : Int) (hl : l.length ≤ 1048576) (w : World) (hr : Row w g 0 l) :
    Calls Try.prog 24 #[.slice (some ⟨g, 0, none⟩) l.length cap, .int .i64 n] w fun e w' => ∃ x, e = .returned (.tuple #[x, .bool (patB l n)]) ∧ Got w.heap.size w' x (patA l n) ∧ Below w.heap.size w w' := by
  have HR : Hid (Row w g 0 l) := hr
  clear hr
  go_enter Try.func24, Try.ntmps24
  go_wp2_with fail
  refine (implCodeOk g cap l hl w HR.out).mono ?_
  rintro e w1 ⟨rfl, hb1⟩
  cases hok : Lay.codeOk l
  · have HE : Hid (patA l n = []) := by show _ = _; simp [patA, hok]
    have HB : Hid (patB l n = false) := by show _ = _; simp [patB, hok]
    clear hok
    go_wp2
    go_ret2
    exact ⟨_, by rw [HB.out]; rfl, by rw [HE.out]; exact got_nil w1 _ hb1.size _, hb1.alloc hb1.size _⟩
  · have HE : Hid (patA l n = if isPeepB l n then peepAt l n.toNat else l) := by show _ = _; simp [patA, hok]
    have HB : Hid (patB l n = isPeepB l n) := by show _ = _; simp [patB, hok]
    have HOK : Hid (Lay.codeOk l = true) := hok
    have hl40 := (Lay.ok_len hok).2
    clear hok
    go_wp2_with fail
    refine (cloneC g cap l (by omega) w1 (HR.out.on hb1)).mono ?_
    rintro e w2 ⟨v, rfl, hv, hb2⟩
    obtain ⟨gv, cv, rfl, hcv⟩ := hv.form2
    have hw2 : Below w.heap.size w w2 := below_over hb1 hb2
    have HV : Hid (GrowC w.heap.size w2 (.slice (some ⟨gv, 0, none⟩) l.length cv) l) := hv.base hb1.size
    clear hb1 hb2 hv hcv
    go_wp2_with fail
    refine (leadersIn_at g cap l HOK.out w2 (HR.out.on hw2)).mono ?_
    rintro e w3 ⟨rfl, hb3⟩
    have hw3 : Below w.heap.size w w3 := below_over hw2 hb3
    have HV3 : Hid (GrowC w.heap.size w3 (.slice (some ⟨gv, 0, none⟩) l.length cv) l) := HV.out.on hb3
    clear hb3 hw2 HV
    go_wp2_with fail
    refine (isPeep_at g cap l HOK.out n w3 (HR.out.on hw3)).mono ?_
    rintro e w4 ⟨rfl, hb4⟩
    have hw4 : Below w.heap.size w w4 := below_over hw3 hb4
    have HV4 : Hid (GrowC w.heap.size w4 (.slice (some ⟨gv, 0, none⟩) l.length cv) l) := HV3.out.on hb4
    clear hb4 hw3 HV3
    cases hp : isPeepB l n
    · have HE2 : Hid (patA l n = l) := by show _ = _; rw [HE.out, hp]; rfl
      have HB2 : Hid (patB l n = false) := by show _ = _; rw [HB.out, hp]
      have HG : Hid (Got w.heap.size w4 (.slice (some ⟨gv, 0, none⟩) l.length cv) (patA l n)) := by show Got _ _ _ _; rw [HE2.out]; exact HV4.out.got
      clear hp HV4 HE HB
      go_wp2
      go_ret2
      exact ⟨_, by rw [HB2.out]; rfl, HG.out, hw4⟩
    · have HE2 : Hid (patA l n = peepAt l n.toNat) := by show _ = _; rw [HE.out, hp]; rfl
      have HB2 : Hid (patB l n = true) := by show _ = _; rw [HB.out, hp]
      obtain ⟨k, rfl, h2⟩ : ∃ k : Nat, n = (k : Int) ∧ k + 2 < l.length := by
        unfold isPeepB at hp
        simp only [Bool.and_eq_true, decide_eq_true_eq] at hp
        exact ⟨n.toNat, by omega, by omega⟩
      obtain ⟨g', c', he, hg1, hg2, hgr, hgm⟩ := HV4.out.got
      obtain ⟨rfl, rfl⟩ : gv = g' ∧ cv = c' := by simpa using he
      have HGR : Hid (Row w4 gv 0 l) := hgr
      have HGM : Hid (Room w4 gv (l.length * 3)) := hgm
      clear hgr hgm he HV4 hp HE HB
      go_wp2_with fail
      refine (leaveOut_at gv cv k l h2 (by omega) w4 hg2 HGR.out HGM.out).mono ?_
      rintro e w5 ⟨rfl, hL⟩
      have hw5 : Below w.heap.size w w5 := hw4.trans (hL.2.2.2 _ hg1 hw4.size)
      have HG : Hid (Got w.heap.size w5 (.slice (some ⟨gv, 0, none⟩) l.length cv) (patA l (k : Int))) := by
        show Got _ _ _ _
        rw [HE2.out, Int.toNat_natCast]
        exact ⟨gv, cv, by rw [peepAt_len], hg1, hL.2.2.1, hL.1, by rw [peepAt_len]; exact hL.2.1⟩
      clear hL HGR HGM HE2
      go_wp2
      go_ret2
      exact ⟨_, by rw [HB2.out]; rfl, HG.out, hw5⟩
set_option maxRecDepth 100000 in
set_option maxHeartbeats 1000000 in
theorem implPeepedAll (g cap : Nat) (l : List Tx.Ins) (hl : l.length ≤ 1048576) (w : World) (hr : Row w g 0 l) :
    Calls Try.prog 31 #[.slice (some ⟨g, 0, none⟩) l.length cap] w fun e w' => ∃ x, e = .returned x ∧ Got w.heap.size w' x (palA l) ∧ Below w.heap.size w w' := by
  have HR : Hid (Row w g 0 l) := hr
  clear hr
  go_enter Try.func31, Try.ntmps31
  go_wp2_with fail
  refine (implCodeOk g cap l hl w HR.out).mono ?_
  rintro e w1 ⟨rfl, hb1⟩
  cases hok : Lay.codeOk l
  · have HE : Hid (palA l = []) := by show _ = _; simp [palA, hok]
    clear hok
    go_wp2
    go_ret
    exact ⟨_, rfl, by rw [HE.out]; exact got_nil w1 _ hb1.size _, hb1.alloc hb1.size _⟩
  · have HE : Hid (palA l = pepF l) := by show _ = _; simp [palA, hok]
    have HOK : Hid (Lay.codeOk l = true) := hok
    have hl40 := (Lay.ok_len hok).2
    clear hok
    go_wp2_with fail
    refine (cloneC g cap l (by omega) w1 (HR.out.on hb1)).mono ?_
    rintro e w2 ⟨v, rfl, hv, hb2⟩
    obtain ⟨gv, cv, rfl, hcv⟩ := hv.form2
    have hw2 : Below w.heap.size w w2 := below_over hb1 hb2
    have HV : Hid (Got w.heap.size w2 (.slice (some ⟨gv, 0, none⟩) l.length cv) l) := (hv.base hb1.size).got
    clear hb1 hb2 hv hcv
    go_wp2
    go_loopg [] 40 (fun m wr => ∃ c : List Tx.Ins, Hid (Got w.heap.size wr (.slice (some ⟨gv, 0, none⟩) l.length cv) c) ∧ Hid (Lay.codeOk c = true) ∧ Hid (busyN c ≤ m) ∧ Hid (c.length = l.length) ∧ Hid (palA l = pepF c) ∧ Below w.heap.size w wr)
    case atStart => exact ⟨l, HV.out, HOK.out, by show _ ≤ _; have := busyN_len l; omega, rfl, HE.out, hw2⟩
    case round =>
      clear HV HOK HE hw2
      obtain ⟨c, hG, hok, hB, hcl, hF, hb⟩ := hrel
      obtain ⟨g', c', he, q1, q2, q3, q4⟩ := hG.out
      obtain ⟨rfl, rfl⟩ : gv = g' ∧ cv = c' := by
        have := he; simp at this; exact ⟨this.1, this.2.2⟩
      have HRc : Hid (Row wr gv 0 c) := q3
      have HMc : Hid (Room wr gv (c.length * 3)) := q4
      clear q3 q4 he hG
      have hpc := peepsIn_at gv cv c hok.out wr HRc.out
      rw [hcl.out] at hpc
      go_wp2_with fail
      refine hpc.mono ?_
      clear hpc
      rintro e w3 ⟨rfl, hb3⟩
      have hw3 : Below w.heap.size w w3 := below_over hb hb3
      have HR3 : Hid (Row w3 gv 0 c) := HRc.out.on hb3
      have HM3 : Hid (Room w3 gv (c.length * 3)) := HMc.out.on hb3
      have hg3 : gv < w3.heap.size := Nat.lt_of_lt_of_le q2 hb3.size
      clear hb3 HRc HMc hb q2
      go_wp2_with fail
      refine (rising_at (peepB c) w3).mono ?_
      rintro e w4 ⟨v, rfl, hg, hb4⟩
      obtain ⟨gp, cp, rfl⟩ := hg.form
      have hw4 : Below w.heap.size w w4 := below_over hw3 hb4
      have HR4 : Hid (Row w4 gv 0 c) := HR3.out.on hb4
      have HM4 : Hid (Room w4 gv (c.length * 3)) := HM3.out.on hb4
      have hg4 : gv < w4.heap.size := Nat.lt_of_lt_of_le hg3 hb4.size
      have HGP : Hid (Grow w3.heap.size w4 (.slice (some ⟨gp, 0, none⟩) (risL (peepB c) 40).length cp) (risL (peepB c) 40)) := hg
      clear hb4 HR3 HM3 hw3 hg hg3
      cases hris : risL (peepB c) 40 with
      | nil =>
        have HG : Hid (Got w.heap.size w4 (.slice (some ⟨gv, 0, none⟩) l.length cv) (palA l)) := by
          show Got _ _ _ _
          rw [hF.out, pepF_end hris]
          exact ⟨gv, cv, by rw [hcl.out], q1, hg4, HR4.out, HM4.out⟩
        clear hris HGP HR4 HM4
        rw [List.length_nil]
        go_wp2
        go_ret
        exact ⟨_, rfl, HG.out, hw4⟩
      | cons x r =>
        rw [hris] at HGP
        obtain ⟨k, rfl, _, hk⟩ := ris_first hris
        obtain ⟨g2, c2, he2, _, _, hir, _⟩ := HGP.out.gint
        obtain ⟨rfl, rfl⟩ : gp = g2 ∧ cp = c2 := by simpa using he2
        have c0 := hir 0 (k : Int) rfl
        rw [Nat.zero_add] at c0
        have h2 := peepB_lt hk
        have HF2 : Hid (palA l = pepF (peepAt c k)) := by show _ = _; rw [hF.out, pepF_step hris]
        have HOK2 : Hid (Lay.codeOk (peepAt c k) = true) := peepAt_ok hok.out h2
        have hbz : busyN (peepAt c k) < gk := Nat.lt_of_lt_of_le (peepAt_busy hk) hB.out
        have hlo := leaveOut_at gv cv k c h2 (by rw [hcl.out]; omega) w4 hg4 HR4.out HM4.out
        rw [hcl.out] at hlo
        have hlen0 : ((((k : Int) :: r).length : Nat) : Int) = (r.length : Int) + 1 := by simp
        have hlen1 : ¬ ((r.length : Int) + 1 = 0) := by omega
        have hlen2 : (0 : Int) < (r.length : Int) + 1 := by omega
        clear hir he2 hris hk HGP hF hB
        go_wp2_with fail
        refine hlo.mono ?_
        clear hlo
        rintro e w5 ⟨rfl, hL⟩
        have hw5 : Below w.heap.size w w5 := hw4.trans (hL.2.2.2 _ q1 hw4.size)
        have HG : Hid (Got w.heap.size w5 (.slice (some ⟨gv, 0, none⟩) l.length cv) (peepAt c k)) := ⟨gv, cv, by rw [peepAt_len, hcl.out], q1, hL.2.2.1, hL.1, by rw [peepAt_len]; exact hL.2.1⟩
        have HCL2 : Hid ((peepAt c k).length = l.length) := by show _ = _; rw [peepAt_len]; exact hcl.out
        clear hL HR4 HM4 hcl
        go_wp2
        go_roundg (busyN (peepAt c k))
        case rel => exact ⟨peepAt c k, HG.out, HOK2.out, Nat.le_refl _, HCL2.out, HF2.out, hw5⟩
        case measure => exact hbz
end Pg
end Go.Proofs.Ythabenjodhjgiaa

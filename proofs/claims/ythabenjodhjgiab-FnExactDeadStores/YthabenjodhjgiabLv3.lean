/- Contracts: what is live ahead of a step, as the program tells it. -/
import Derived.Test.YthabenjodhjgiabLv2
import Derived.Deep.Cut
namespace Go.Proofs.Ythabenjodhjgiab
namespace Pg
open Go.ChangeShapes Go.WideShapes Go.ChangeAt Go.RowKit St

theorem local_in {code : List Tx.Ins} (hok : Lay.codeOk code = true) {k : Nat} (hk : k < code.length) (h : (insF code k).1 = 2 ∨ (insF code k).1 = 3) : 0 ≤ (insF code k).2.1 ∧ (insF code k).2.1 < 8 := by
  have h1 := Lay.ok_at hok (ins_is hk)
  unfold Tx.okI at h1
  rw [if_neg (by rcases h with h | h <;> omega)] at h1
  simp only [Bool.and_eq_true, decide_eq_true_eq] at h1
  refine ⟨h1.1.1.1, ?_⟩
  have h2 := h1.1.1.2
  unfold Tx.limA at h2
  rcases h with h | h <;> rw [h] at h2 <;> simpa using h2

set_option maxRecDepth 100000 in
set_option maxHeartbeats 4000000 in
theorem liveAhead_at (g yc : Nat) (code : List Tx.Ins) (hok : Lay.codeOk code = true) (k : Nat) (hk : k < code.length) (L : Lvs) (w : World) (hrow : Row w g 0 code) :
    Calls Try.prog 44 #[.slice (some ⟨g, 0, none⟩) code.length yc, .int .i64 k, .agg (chi 320 (flatP L)).toArray] w fun e w' => e = .returned (.agg (chi 8 (liveF code k L)).toArray) ∧ Below w.heap.size w w' := by
  have HR : Hid (Row w g 0 code) := hrow
  have HOK : Hid (Lay.codeOk code = true) := hok
  have hki : (k : Int) < (code.length : Int) := by omega
  have HLI := fun h => local_in hok hk h
  have HLF : Hid (∀ v, liveF code k L v = inF (insF code k) v (outF code k L v)) := fun v => rfl
  have HII : Hid (code[k]? = some (insF code k)) := ins_is hk
  generalize insF code k = ins at *
  obtain ⟨op, A, b⟩ := ins
  dsimp only at HLI
  obtain ⟨W, hW⟩ : ∃ W, W = (w.alloc (.cells (chi 320 (flatP L)).toArray 52)).alloc (.cells (chi 8 fun _ => false).toArray 50) := ⟨_, rfl⟩
  have hwW : Below w.heap.size w W := by rw [hW]; exact ((Below.refl _ _).alloc (Nat.le_refl _) _).alloc (by simp) _
  have C1 : Hid (Cells W (w.heap.size + 1) (chi 8 fun _ => false)) := by show Cells _ _ _; rw [hW]; exact Cells.new (w.alloc _) _ (by simp) _ _
  have C0L : Hid (Cells ((w.alloc (.cells (chi 320 (flatP L)).toArray 52)).alloc (.cells (chi 8 fun _ => false).toArray 50)) w.heap.size (chi 320 (flatP L))) := (Cells.new w _ rfl _ _).alloc _
  have HW : Hid (W = (w.alloc (.cells (chi 320 (flatP L)).toArray 52)).alloc (.cells (chi 8 fun _ => false).toArray 50)) := hW
  clear hW hrow hok
  go_enter Try.func44, Try.ntmps44
  go_wp2_with (first
    | (with_reducible refine wpList_alloc_chi rfl 50 rfl 8 zeroL ?_)
    | (with_reducible refine wpList_load_mid rfl 52 (.tmp 5) rfl w.heap.size 0 (by simp [Act.eval, Act.put]) (chi 320 (flatP L)) _ C0L.out.range Try.underlying52 rfl (by rw [infoV, chi_len]) ?_))
  rw [← HW.out]
  clear HW C0L
  refine (liveBehind_at g yc code HOK.out k hk L W (HR.out.on hwW)).mono ?_
  rintro e w1 ⟨rfl, hb1⟩
  have hw1 : Below w.heap.size w w1 := below_over hwW hb1
  have D1 : Hid (Cells w1 (w.heap.size + 1) (chi 8 fun _ => false)) := C1.out.on hb1
  have hz1 : w.heap.size + 1 < w1.heap.size := D1.out.lt' (by decide)
  clear hb1 hwW C1
  have C7 : Hid (Cells (w1.alloc (.cells (chi 8 fun _ => false).toArray 50)) w1.heap.size (chi 8 fun _ => false)) := Cells.new w1 _ rfl _ _
  have E7 : Hid (Cells ((w1.alloc (.cells (chi 8 fun _ => false).toArray 50)).setCells w1.heap.size 0 (chi 8 (outF code k L))) w1.heap.size (chi 8 (outF code k L))) := C7.out.put (by rw [chi_len, chi_len])
  have E1 : Hid (Cells ((w1.alloc (.cells (chi 8 fun _ => false).toArray 50)).setCells w1.heap.size 0 (chi 8 (outF code k L))) (w.heap.size + 1) (chi 8 fun _ => false)) := (D1.out.alloc _).putFar _ (by omega)
  have hbY : Below w.heap.size w ((w1.alloc (.cells (chi 8 fun _ => false).toArray 50)).setCells w1.heap.size 0 (chi 8 (outF code k L))) := below_setCells (by omega) _ _ (hw1.alloc hw1.size _)
  have HPC : Hid (∀ v ∈ chi 8 (outF code k L), v.oneCell' = true) := chi_one _ _
  have HPL : Hid ((chi 8 (outF code k L)).length = 8) := chi_len _ _
  generalize hcs : chi 8 (outF code k L) = cs at *
  have HCS0 : Hid (chi 8 (outF code k L) = cs) := hcs
  clear hcs
  go_upto_region 2 with (first
    | (with_reducible refine wpList_alloc_chi rfl 50 rfl 8 zeroL ?_)
    | (with_reducible refine wpList_store_mid rfl 50 (.tmp 7) (.tmp 12) rfl w1.heap.size 0 cs.toArray (by simp [Act.eval, Act.put]) (by simp [Act.eval, Act.put]) (C7.out.there (by rw [chi_len]; simpa using HPL.out)) (by rw [infoL]; simpa using HPL.out.symm) (all_oneCell_toArray HPC.out) ?_))
  generalize (w1.alloc (.cells (chi 8 fun _ => false).toArray 50)).setCells w1.heap.size 0 cs = Y at *
  rw [← HCS0.out] at E7
  clear C7 HPC HPL HCS0 D1
  obtain ⟨d0, d1, d2⟩ := (HR.out.on hbY) k _ HII.out
  simp only [Nat.zero_add] at d0 d1 d2
  obtain ⟨ZW, hZW⟩ : ∃ ZW, ZW = Y.alloc (.cells #[.int .i64 op, .int .i64 A, .int .i64 b] 36) := ⟨_, rfl⟩
  have hzb : Below Y.heap.size Y ZW := by rw [hZW]; exact (Below.refl _ _).alloc (Nat.le_refl _) _
  have hbZ : Below w.heap.size w ZW := below_over hbY hzb
  replace E7 : Hid (Cells ZW w1.heap.size (chi 8 (outF code k L))) := E7.out.on hzb
  replace E1 : Hid (Cells ZW (w.heap.size + 1) (chi 8 fun _ => false)) := E1.out.on hzb
  have EI : Hid (Cells ZW Y.heap.size [.int .i64 op, .int .i64 A, .int .i64 b]) := by show Cells _ _ _; rw [hZW]; exact Cells.new Y _ rfl _ _
  have HZW : Hid (ZW = Y.alloc (.cells #[.int .i64 op, .int .i64 A, .int .i64 b] 36)) := hZW
  clear hZW hbY hzb
  go_upto_region 3 with fail
  rw [← HZW.out]
  clear HZW d0 d1 d2
  obtain ⟨i0, _⟩ := EI.out.g0
  obtain ⟨i1, _⟩ := EI.out.g1
  by_cases h2 : op = 2
  · subst h2
    obtain ⟨ha0, ha8⟩ := HLI (.inl rfl)
    obtain ⟨a, rfl⟩ := Int.eq_ofNat_of_zero_le ha0
    have ha : a < 8 := by omega
    obtain ⟨c7, f7⟩ := E7.out a _ (chi_at _ ha)
    clear HLI ha0
    have HCS : Hid (Cells (ZW.setCell ⟨w1.heap.size, a, none⟩ (.bool true)) w1.heap.size (chi 8 (liveF code k L))) := by
      have h1 := E7.out.set a (.bool true)
      rw [chi_set] at h1
      rw [chi_congr (Q := fun v => if v = a then true else outF code k L v) (fun v _ => by
        rw [HLF.out v]
        unfold inF
        dsimp only
        by_cases e : v = a
        · subst e; simp
        · have e' : ¬ ((a : Int) = (v : Int)) := by omega
          simp [e, e'])]
      exact h1
    have HC0 : Hid (Cells (ZW.setCell ⟨w1.heap.size, a, none⟩ (.bool true)) (w.heap.size + 1) (chi 8 fun _ => false)) := E1.out.far _ _ (by simp; omega)
    have hbX : Below w.heap.size w (ZW.setCell ⟨w1.heap.size, a, none⟩ (.bool true)) := hbZ.setCell (p := ⟨w1.heap.size, a, none⟩) (by simp; omega) _
    clear E1 E7 hbZ HLF
    go_upto_region 8 with fail
    generalize ZW.setCell ⟨w1.heap.size, a, none⟩ (.bool true) = X at *
    have HCL : Hid ((chi 8 (liveF code k L)).length = 8) := chi_len _ _
    have HCO : Hid (∀ v ∈ chi 8 (liveF code k L), v.oneCell' = true) := chi_one _ _
    have HC2 : Hid (Cells (X.setCells (w.heap.size + 1) 0 (chi 8 (liveF code k L))) (w.heap.size + 1) (chi 8 (liveF code k L))) := HC0.out.put (by rw [chi_len, chi_len])
    have hb2 : Below w.heap.size w (X.setCells (w.heap.size + 1) 0 (chi 8 (liveF code k L))) := below_setCells (by omega) _ _ hbX
    clear hbX
    generalize hcs : chi 8 (liveF code k L) = cs at *
    have HCQ : Hid (chi 8 (liveF code k L) = cs) := hcs
    clear hcs
    go_wp2_with (first
      | (with_reducible refine wpList_load_mid rfl 50 (.tmp 7) rfl w1.heap.size 0 (by simp [Act.eval]) cs _ HCS.out.range Try.underlying50 rfl (by rw [infoL, HCL.out]) ?_)
      | (with_reducible refine wpList_store_mid rfl 50 (.tmp 6) (.tmp 29) rfl (w.heap.size + 1) 0 cs.toArray (by simp [Act.eval, Act.put]) (by simp [Act.eval, Act.put]) (HC0.out.there (by rw [chi_len]; simpa using HCL.out)) (by rw [infoL]; simpa using HCL.out.symm) (all_oneCell_toArray HCO.out) ?_))
    (try simp only [Exit.inBlock, Exit.then])
    refine bodyPost_ret (ret_cell rfl rfl HC2.out.range Try.underlying50 rfl (by rw [infoL, HCL.out])) rfl ?_
    exact ⟨by rw [HCQ.out], hb2⟩
  · by_cases h3 : op = 3
    · subst h3
      obtain ⟨ha0, ha8⟩ := HLI (.inr rfl)
      obtain ⟨a, rfl⟩ := Int.eq_ofNat_of_zero_le ha0
      have ha : a < 8 := by omega
      obtain ⟨c7, f7⟩ := E7.out a _ (chi_at _ ha)
      clear HLI ha0 h2
      have HCS : Hid (Cells (ZW.setCell ⟨w1.heap.size, a, none⟩ (.bool false)) w1.heap.size (chi 8 (liveF code k L))) := by
        have h1 := E7.out.set a (.bool false)
        rw [chi_set] at h1
        rw [chi_congr (Q := fun v => if v = a then false else outF code k L v) (fun v _ => by
          rw [HLF.out v]
          unfold inF
          dsimp only
          by_cases e : v = a
          · subst e; simp
          · have e' : ¬ ((a : Int) = (v : Int)) := by omega
            simp [e, e'])]
        exact h1
      have HC0 : Hid (Cells (ZW.setCell ⟨w1.heap.size, a, none⟩ (.bool false)) (w.heap.size + 1) (chi 8 fun _ => false)) := E1.out.far _ _ (by simp; omega)
      have hbX : Below w.heap.size w (ZW.setCell ⟨w1.heap.size, a, none⟩ (.bool false)) := hbZ.setCell (p := ⟨w1.heap.size, a, none⟩) (by simp; omega) _
      clear E1 E7 hbZ HLF
      go_upto_region 8 with fail
      generalize ZW.setCell ⟨w1.heap.size, a, none⟩ (.bool false) = X at *
      have HCL : Hid ((chi 8 (liveF code k L)).length = 8) := chi_len _ _
      have HCO : Hid (∀ v ∈ chi 8 (liveF code k L), v.oneCell' = true) := chi_one _ _
      have HC2 : Hid (Cells (X.setCells (w.heap.size + 1) 0 (chi 8 (liveF code k L))) (w.heap.size + 1) (chi 8 (liveF code k L))) := HC0.out.put (by rw [chi_len, chi_len])
      have hb2 : Below w.heap.size w (X.setCells (w.heap.size + 1) 0 (chi 8 (liveF code k L))) := below_setCells (by omega) _ _ hbX
      clear hbX
      generalize hcs : chi 8 (liveF code k L) = cs at *
      have HCQ : Hid (chi 8 (liveF code k L) = cs) := hcs
      clear hcs
      go_wp2_with (first
        | (with_reducible refine wpList_load_mid rfl 50 (.tmp 7) rfl w1.heap.size 0 (by simp [Act.eval]) cs _ HCS.out.range Try.underlying50 rfl (by rw [infoL, HCL.out]) ?_)
        | (with_reducible refine wpList_store_mid rfl 50 (.tmp 6) (.tmp 29) rfl (w.heap.size + 1) 0 cs.toArray (by simp [Act.eval, Act.put]) (by simp [Act.eval, Act.put]) (HC0.out.there (by rw [chi_len]; simpa using HCL.out)) (by rw [infoL]; simpa using HCL.out.symm) (all_oneCell_toArray HCO.out) ?_))
      (try simp only [Exit.inBlock, Exit.then])
      refine bodyPost_ret (ret_cell rfl rfl HC2.out.range Try.underlying50 rfl (by rw [infoL, HCL.out])) rfl ?_
      exact ⟨by rw [HCQ.out], hb2⟩
    · have HCS : Hid (Cells ZW w1.heap.size (chi 8 (liveF code k L))) := by
        show Cells _ _ _
        rw [chi_congr (Q := outF code k L) (fun v _ => by rw [HLF.out v]; simp [inF, h2, h3])]
        exact E7.out
      have HC0 : Hid (Cells ZW (w.heap.size + 1) (chi 8 fun _ => false)) := E1.out
      have hbX := hbZ
      have h2b : (op == 2) = false := by simp [h2]
      have h3b : (op == 3) = false := by simp [h3]
      clear E1 E7 hbZ HLF HLI h2 h3
      go_upto_region 8 with fail
      clear EI i0 i1
      generalize ZW = X at *
      have HCL : Hid ((chi 8 (liveF code k L)).length = 8) := chi_len _ _
      have HCO : Hid (∀ v ∈ chi 8 (liveF code k L), v.oneCell' = true) := chi_one _ _
      have HC2 : Hid (Cells (X.setCells (w.heap.size + 1) 0 (chi 8 (liveF code k L))) (w.heap.size + 1) (chi 8 (liveF code k L))) := HC0.out.put (by rw [chi_len, chi_len])
      have hb2 : Below w.heap.size w (X.setCells (w.heap.size + 1) 0 (chi 8 (liveF code k L))) := below_setCells (by omega) _ _ hbX
      clear hbX
      generalize hcs : chi 8 (liveF code k L) = cs at *
      have HCQ : Hid (chi 8 (liveF code k L) = cs) := hcs
      clear hcs
      go_wp2_with (first
        | (with_reducible refine wpList_load_mid rfl 50 (.tmp 7) rfl w1.heap.size 0 (by simp [Act.eval]) cs _ HCS.out.range Try.underlying50 rfl (by rw [infoL, HCL.out]) ?_)
        | (with_reducible refine wpList_store_mid rfl 50 (.tmp 6) (.tmp 29) rfl (w.heap.size + 1) 0 cs.toArray (by simp [Act.eval, Act.put]) (by simp [Act.eval, Act.put]) (HC0.out.there (by rw [chi_len]; simpa using HCL.out)) (by rw [infoL]; simpa using HCL.out.symm) (all_oneCell_toArray HCO.out) ?_))
      (try simp only [Exit.inBlock, Exit.then])
      refine bodyPost_ret (ret_cell rfl rfl HC2.out.range Try.underlying50 rfl (by rw [infoL, HCL.out])) rfl ?_
      exact ⟨by rw [HCQ.out], hb2⟩
end Pg
end Go.Proofs.Ythabenjodhjgiab

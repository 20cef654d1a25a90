/- Contracts of the program's sets of locals: two as one, and as bits. -/
import Derived.Test.YthabenjodhjgiabLv0
namespace Go.Proofs.Ythabenjodhjgiab
namespace Pg
open Go.ChangeShapes Go.WideShapes Go.ChangeAt Go.RowKit St

theorem infoL : (Try.prog.info? 50).map (·.size) = some 8 := by kernel_rfl
theorem zeroL : (Try.prog.info? 50).map (fun i => (i.zero, i.size)) = some (some (.agg (chi 8 fun _ => false).toArray), 8) := by kernel_rfl
theorem infoV : (Try.prog.info? 52).map (·.size) = some 320 := by kernel_rfl
theorem zeroV : (Try.prog.info? 52).map (fun i => (i.zero, i.size)) = some (some (.agg (chi 320 fun _ => false).toArray), 320) := by kernel_rfl
set_option maxRecDepth 100000 in
set_option maxHeartbeats 2000000 in
theorem withL_at (P Q : Nat → Bool) (w : World) :
    Calls Try.prog 45 #[.agg (chi 8 P).toArray, .agg (chi 8 Q).toArray] w fun e w' => e = .returned (.agg (chi 8 fun j => P j || Q j).toArray) ∧ Below w.heap.size w w' := by
  obtain ⟨W, hW⟩ : ∃ W, W = ((w.alloc (.cells (chi 8 P).toArray 50)).alloc (.cells (chi 8 Q).toArray 50)).alloc (.cells (chi 8 fun _ => false).toArray 50) := ⟨_, rfl⟩
  have hwW : Below w.heap.size w W := by rw [hW]; exact (((Below.refl _ _).alloc (Nat.le_refl _) _).alloc (by simp) _).alloc (by simp; omega) _
  have C0 : Hid (Cells W w.heap.size (chi 8 P)) := by show Cells _ _ _; rw [hW]; exact ((Cells.new w _ rfl _ _).alloc _).alloc _
  have C1 : Hid (Cells W (w.heap.size + 1) (chi 8 Q)) := by show Cells _ _ _; rw [hW]; exact (Cells.new (w.alloc _) _ (by simp) _ _).alloc _
  have C2 : Hid (Cells W (w.heap.size + 1 + 1) (chi 8 fun _ => false)) := by show Cells _ _ _; rw [hW]; exact Cells.new ((w.alloc _).alloc _) _ (by simp) _ _
  have C1' : Hid (Cells (((w.alloc (.cells (chi 8 P).toArray 50)).alloc (.cells (chi 8 Q).toArray 50)).alloc (.cells (chi 8 fun _ => false).toArray 50)) (w.heap.size + 1) (chi 8 Q)) := (Cells.new (w.alloc _) _ (by simp) _ _).alloc _
  have HW : Hid (W = ((w.alloc (.cells (chi 8 P).toArray 50)).alloc (.cells (chi 8 Q).toArray 50)).alloc (.cells (chi 8 fun _ => false).toArray 50)) := hW
  clear hW
  go_enter Try.func45, Try.ntmps45
  go_wp2_with (first
    | (with_reducible refine wpList_alloc_chi rfl 50 rfl 8 zeroL ?_)
    | (with_reducible refine wpList_load_mid rfl 50 (.tmp 3) rfl (w.heap.size + 1) 0 (by simp [Act.eval, Act.put]) (chi 8 Q) _ C1'.out.range Try.underlying50 rfl (by rw [infoL, chi_len]) ?_))
  rw [← HW.out]
  clear HW C1'
  go_loopw [8] (fun i wr => ∃ k : Nat, k ≤ 8 ∧ i = .int .i64 k ∧ Hid (Cells wr w.heap.size (chi 8 fun j => P j || (Q j && decide (j < k)))) ∧ Hid (Cells wr (w.heap.size + 1 + 1) (chi 8 fun _ => false)) ∧ Below w.heap.size w wr) (fun i _ => 8 - (intOf i).toNat)
  case atStart =>
    refine ⟨0, Nat.zero_le _, rfl, ?_, C2.out, hwW⟩
    show Cells _ _ _
    rw [chi_congr (Q := P) (fun j hj => by simp)]
    exact C0.out
  case round =>
    clear C0 C1 C2 hwW
    obtain ⟨k, hk, rfl, hc, hc2, hb⟩ := hrel
    by_cases hlt : k < 8
    · have hx := run_index_chi Try.underlying50 Q hlt wr
      have hki : (k : Int) < 8 := by omega
      obtain ⟨c0, f0⟩ := hc.out k _ (chi_at _ hlt)
      have hdk : decide (k < k) = false := by simp
      simp only [hdk, Bool.and_false, Bool.or_false] at c0
      have HC : Hid (∀ b, b = (P k || Q k) → Cells (wr.setCell ⟨w.heap.size, k, none⟩ (.bool b)) w.heap.size (chi 8 fun j => P j || (Q j && decide (j < k + 1)))) := fun b hb => by
        have h1 := hc.out.set k (.bool b)
        rw [chi_set] at h1
        rw [chi_congr (Q := fun j => if j = k then b else P j || (Q j && decide (j < k))) (fun j hj => by
          by_cases e : j = k
          · subst e; simp [hb]
          · have : decide (j < k + 1) = decide (j < k) := by rw [decide_eq_decide]; omega
            simp [e, this])]
        exact h1
      have HC2 : Hid (∀ b, Cells (wr.setCell ⟨w.heap.size, k, none⟩ (.bool b)) (w.heap.size + 1 + 1) (chi 8 fun _ => false)) := fun b => hc2.out.far _ _ (by simp; omega)
      have HB : Hid (∀ b, Below w.heap.size w (wr.setCell ⟨w.heap.size, k, none⟩ (.bool b))) := fun b => hb.setCell (Nat.le_refl _) _
      clear hc hc2 hdk
      cases hp : P k
      · rw [hp] at c0 HC
        clear hp
        generalize Q k = q at *
        go_wp2
        go_roundw
        case rel => exact ⟨k + 1, by omega, by go_num, HC.out _ (by simp), HC2.out _, HB.out _⟩
        case measure => simp [intOf]; omega
      · rw [hp] at c0 HC
        clear hp
        generalize Q k = q at *
        go_wp2
        go_roundw
        case rel => exact ⟨k + 1, by omega, by go_num, HC.out _ (by simp), HC2.out _, HB.out _⟩
        case measure => simp [intOf]; omega
    · have HC0 : Hid (Cells wr w.heap.size (chi 8 fun j => P j || Q j)) := by
        show Cells _ _ _
        rw [chi_congr (Q := fun j => P j || (Q j && decide (j < k))) (fun j hj => by
          have : decide (j < k) = true := by simp; omega
          rw [this, Bool.and_true])]
        exact hc.out
      have HC2 : Hid (Cells (wr.setCells (w.heap.size + 1 + 1) 0 (chi 8 fun j => P j || Q j)) (w.heap.size + 1 + 1) (chi 8 fun j => P j || Q j)) := hc2.out.put (by rw [chi_len, chi_len])
      have HCL : Hid ((chi 8 fun j => P j || Q j).length = 8) := chi_len _ _
      have HCO : Hid (∀ v ∈ (chi 8 fun j => P j || Q j), v.oneCell' = true) := chi_one _ _
      have hki : ¬ (k : Int) < 8 := by omega
      have hb2 : Below w.heap.size w (wr.setCells (w.heap.size + 1 + 1) 0 (chi 8 fun j => P j || Q j)) := below_setCells (by omega) _ _ hb
      clear hb hc
      generalize hcs : (chi 8 fun j => P j || Q j) = cs at *
      have HCS : Hid ((chi 8 fun j => P j || Q j) = cs) := hcs
      clear hcs
      go_wp2_with (first
        | (with_reducible refine wpList_load_mid rfl 50 (.tmp 2) rfl w.heap.size 0 (by simp [Act.eval, Act.put]) cs _ HC0.out.range Try.underlying50 rfl (by rw [infoL, HCL.out]) ?_)
        | (with_reducible refine wpList_store_mid rfl 50 (.tmp 4) (.tmp 21) rfl (w.heap.size + 1 + 1) 0 cs.toArray (by simp [Act.eval, Act.put]) (by simp [Act.eval, Act.put]) (hc2.out.there (by rw [chi_len]; simpa using HCL.out)) (by rw [infoL]; simpa using HCL.out.symm) (all_oneCell_toArray HCO.out) ?_))
      (try simp only [Exit.inBlock, Exit.then])
      refine bodyPost_ret (ret_cell rfl rfl HC2.out.range Try.underlying50 rfl (by rw [infoL, HCL.out])) rfl ?_
      exact ⟨by rw [HCS.out], hb2⟩
end Pg
end Go.Proofs.Ythabenjodhjgiab

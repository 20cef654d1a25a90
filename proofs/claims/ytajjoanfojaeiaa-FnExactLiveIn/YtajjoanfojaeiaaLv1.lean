/- Contracts of the program's sets of locals: two as one, and as bits. -/
import Derived.Test.YtajjoanfojaeiaaLv0
namespace Go.Proofs.Ytajjoanfojaeiaa
namespace Pg
open Go.ChangeShapes Go.WideShapes Go.ChangeAt Go.RowKit St

theorem infoL : (Try.prog.info? 51).map (·.size) = some 8 := by kernel_rfl
theorem zeroL : (Try.prog.info? 51).map (fun i => (i.zero, i.size)) = some (some (.agg (chi 8 fun _ => false).toArray), 8) := by kernel_rfl
theorem infoV : (Try.prog.info? 53).map (·.size) = some 320 := by kernel_rfl
theorem zeroV : (Try.prog.info? 53).map (fun i => (i.zero, i.size)) = some (some (.agg (chi 320 fun _ => false).toArray), 320) := by kernel_rfl
set_option maxRecDepth 100000 in
set_option maxHeartbeats 2000000 in
theorem withL_at (P Q : Nat → Bool) (w : World) :
    Calls Try.prog 63 #[.agg (chi 8 P).toArray, .agg (chi 8 Q).toArray] w fun e w' => e = .returned (.agg (chi 8 fun j => P j || Q j).toArray) ∧ Below w.heap.size w w' := by
  obtain ⟨W, hW⟩ : ∃ W, W = ((w.alloc (.cells (chi 8 P).toArray 51)).alloc (.cells (chi 8 Q).toArray 51)).alloc (.cells (chi 8 fun _ => false).toArray 51) := ⟨_, rfl⟩
  have hwW : Below w.heap.size w W := by rw [hW]; exact (((Below.refl _ _).alloc (Nat.le_refl _) _).alloc (by simp) _).alloc (by simp; omega) _
  have C0 : Hid (Cells W w.heap.size (chi 8 P)) := by show Cells _ _ _; rw [hW]; exact ((Cells.new w _ rfl _ _).alloc _).alloc _
  have C1 : Hid (Cells W (w.heap.size + 1) (chi 8 Q)) := by show Cells _ _ _; rw [hW]; exact (Cells.new (w.alloc _) _ (by simp) _ _).alloc _
  have C2 : Hid (Cells W (w.heap.size + 1 + 1) (chi 8 fun _ => false)) := by show Cells _ _ _; rw [hW]; exact Cells.new ((w.alloc _).alloc _) _ (by simp) _ _
  have C1' : Hid (Cells (((w.alloc (.cells (chi 8 P).toArray 51)).alloc (.cells (chi 8 Q).toArray 51)).alloc (.cells (chi 8 fun _ => false).toArray 51)) (w.heap.size + 1) (chi 8 Q)) := (Cells.new (w.alloc _) _ (by simp) _ _).alloc _
  have HW : Hid (W = ((w.alloc (.cells (chi 8 P).toArray 51)).alloc (.cells (chi 8 Q).toArray 51)).alloc (.cells (chi 8 fun _ => false).toArray 51)) := hW
  clear hW
  go_enter Try.func63, Try.ntmps63
  go_wp2_with (first
    | (with_reducible refine wpList_alloc_chi rfl 51 rfl 8 zeroL ?_)
    | (with_reducible refine wpList_load_mid rfl 51 (.tmp 3) rfl (w.heap.size + 1) 0 (by simp [Act.eval, Act.put]) (chi 8 Q) _ C1'.out.range Try.underlying51 rfl (by rw [infoL, chi_len]) ?_))
  rw [← HW.out]
  clear HW C1'
  go_loopw [8] (fun i wr => ∃ k : Nat, k ≤ 8 ∧ i = .int .i64 k ∧ Hid (Cells wr w.heap.size (chi 8 fun j => P j || (Q j && decide (j < k)))) ∧ Hid (Cells wr (w.heap.size + 1 + 1) (chi 8 fun _ => false)) ∧ Below w.heap.size w wr) (fun i _ => 8 - (intOf i).toNat)
  case atStart =>
    refine ⟨0, Nat.zero_le _, rfl, ?_, C2.out, hwW⟩
    show Cells _ _ _
    rw [chi_congr (Q := P) (fun j hj => by simp)]
    exact C0.out
  case round =>
    clear C0 C1 C2 hwW
    obtain ⟨k, hk, rfl, hc, hc2, hb⟩ := hrel
    by_cases hlt : k < 8
    · have hx := run_index_chi Try.underlying51 Q hlt wr
      have hki : (k : Int) < 8 := by omega
      obtain ⟨c0, f0⟩ := hc.out k _ (chi_at _ hlt)
      have hdk : decide (k < k) = false := by simp
      simp only [hdk, Bool.and_false, Bool.or_false] at c0
      have HC : Hid (∀ b, b = (P k || Q k) → Cells (wr.setCell ⟨w.heap.size, k, none⟩ (.bool b)) w.heap.size (chi 8 fun j => P j || (Q j && decide (j < k + 1)))) := fun b hb => by
        have h1 := hc.out.set k (.bool b)
        rw [chi_set] at h1
        rw [chi_congr (Q := fun j => if j = k then b else P j || (Q j && decide (j < k))) (fun j hj => by
          by_cases e : j = k
          · subst e; simp [hb]
          · have : decide (j < k + 1) = decide (j < k) := by rw [decide_eq_decide]; omega
            simp [e, this])]
        exact h1
      have HC2 : Hid (∀ b, Cells (wr.setCell ⟨w.heap.size, k, none⟩ (.bool b)) (w.heap.size + 1 + 1) (chi 8 fun _ => false)) := fun b => hc2.out.far _ _ (by simp; omega)
      have HB : Hid (∀ b, Below w.heap.size w (wr.setCell ⟨w.heap.size, k, none⟩ (.bool b))) := fun b => hb.setCell (Nat.le_refl _) _
      clear hc hc2 hdk
      cases hp : P k
      · rw [hp] at c0 HC
        clear hp
        generalize Q k = q at *
        go_wp2
        go_roundw
        case rel => exact ⟨k + 1, by omega, by go_num, HC.out _ (by simp), HC2.out _, HB.out _⟩
        case measure => simp [intOf]; omega
      · rw [hp] at c0 HC
        clear hp
        generalize Q k = q at *
        go_wp2
        go_roundw
        case rel => exact ⟨k + 1, by omega, by go_num, HC.out _ (by simp), HC2.out _, HB.out _⟩
        case measure => simp [intOf]; omega
    · have HC0 : Hid (Cells wr w.heap.size (chi 8 fun j => P j || Q j)) := by
        show Cells _ _ _
        rw [chi_congr (Q := fun j => P j || (Q j && decide (j < k))) (fun j hj => by
          have : decide (j < k) = true := by simp; omega
          rw [this, Bool.and_true])]
        exact hc.out
      have HC2 : Hid (Cells (wr.setCells (w.heap.size + 1 + 1) 0 (chi 8 fun j => P j || Q j)) (w.heap.size + 1 + 1) (chi 8 fun j => P j || Q j)) := hc2.out.put (by rw [chi_len, chi_len])
      have HCL : Hid ((chi 8 fun j => P j || Q j).length = 8) := chi_len _ _
      have HCO : Hid (∀ v ∈ (chi 8 fun j => P j || Q j), v.oneCell' = true) := chi_one _ _
      have hki : ¬ (k : Int) < 8 := by omega
      have hb2 : Below w.heap.size w (wr.setCells (w.heap.size + 1 + 1) 0 (chi 8 fun j => P j || Q j)) := below_setCells (by omega) _ _ hb
      clear hb hc
      generalize hcs : (chi 8 fun j => P j || Q j) = cs at *
      have HCS : Hid ((chi 8 fun j => P j || Q j) = cs) := hcs
      clear hcs
      go_wp2_with (first
        | (with_reducible refine wpList_load_mid rfl 51 (.tmp 2) rfl w.heap.size 0 (by simp [Act.eval, Act.put]) cs _ HC0.out.range Try.underlying51 rfl (by rw [infoL, HCL.out]) ?_)
        | (with_reducible refine wpList_store_mid rfl 51 (.tmp 4) (.tmp 21) rfl (w.heap.size + 1 + 1) 0 cs.toArray (by simp [Act.eval, Act.put]) (by simp [Act.eval, Act.put]) (hc2.out.there (by rw [chi_len]; simpa using HCL.out)) (by rw [infoL]; simpa using HCL.out.symm) (all_oneCell_toArray HCO.out) ?_))
      (try simp only [Exit.inBlock, Exit.then])
      refine bodyPost_ret (ret_cell rfl rfl HC2.out.range Try.underlying51 rfl (by rw [infoL, HCL.out])) rfl ?_
      exact ⟨by rw [HCS.out], hb2⟩
set_option maxRecDepth 100000 in
set_option maxHeartbeats 1000000 in
theorem bits_at (P : Nat → Bool) (w : World) :
    Calls Try.prog 38 #[.agg (chi 8 P).toArray] w fun e w' => e = .returned (.int .i64 (bn P 8 : Int)) ∧ Below w.heap.size w w' := by
  have C0 : Hid (Cells (w.alloc (.cells (chi 8 P).toArray 51)) w.heap.size (chi 8 P)) := Cells.new w _ rfl _ _
  have hb0 : Below w.heap.size w (w.alloc (.cells (chi 8 P).toArray 51)) := (Below.refl _ _).alloc (Nat.le_refl _) _
  go_enter Try.func38, Try.ntmps38
  go_wp2_with (with_reducible refine wpList_load_mid rfl 51 (.tmp 1) rfl w.heap.size 0 (by simp [Act.eval]) (chi 8 P) _ C0.out.range Try.underlying51 rfl (by rw [infoL, chi_len]) ?_)
  clear C0
  generalize w.alloc (.cells (chi 8 P).toArray 51) = X at *
  go_loopw [3, 7] (fun b i wr => ∃ k : Nat, k ≤ 8 ∧ i = .int .i64 k ∧ b = .int .i64 (bn P k : Int) ∧ wr = X) (fun _ i _ => 8 - (intOf i).toNat)
  case atStart => exact ⟨0, Nat.zero_le _, rfl, rfl, rfl⟩
  case round =>
    obtain ⟨k, hk, rfl, rfl, rfl⟩ := hrel
    by_cases hlt : k < 8
    · have hx := run_index_chi Try.underlying51 P hlt wr
      have hki : (k : Int) < 8 := by omega
      have HLT : Hid (bn P k < 2 ^ k) := bn_lt P k
      have HS : Hid (bn P (k + 1) = bn P k ||| (if P k then 2 ^ k else 0)) := rfl
      cases hp : P k
      · rw [hp] at hx HS
        have HE : Hid (bn P k = bn P (k + 1)) := by show _ = _; rw [HS.out]; simp
        clear hp HS
        go_wp2
        go_roundw
        case rel => exact ⟨k + 1, by omega, by go_num, by rw [HE.out], by simp⟩
        case measure => simp [intOf]; omega
      · rw [hp] at hx HS
        have HV : Hid (bits .or .i64 (bn P k : Int) (wrap64 (2 ^ k)) = (bn P (k + 1) : Int)) := by
          show _ = _
          have h2 : 2 ^ k < 256 := Nat.lt_of_lt_of_le (Nat.pow_lt_pow_right (by decide) hlt) (by decide)
          have e : wrap64 (2 ^ k) = ((2 ^ k : Nat) : Int) := by
            have h4 : ((2 ^ k : Nat) : Int) = (2 : Int) ^ k := by push_cast; rfl
            rw [← h4]
            exact (show ∀ q : Nat, q < 256 → wrap64 (q : Int) = (q : Int) from fun q hq => by unfold wrap64; omega) _ h2
          rw [e, or_nat _ _ (by have := HLT.out; omega) h2, HS.out]
          simp
        clear hp HS
        go_wp2
        go_roundw
        case rel => exact ⟨k + 1, by omega, by go_num, by rw [HV.out], by simp⟩
        case measure => simp [intOf]; omega
    · obtain rfl : k = 8 := by omega
      go_wp2
      go_ret
      exact ⟨rfl, hb0⟩
end Pg
end Go.Proofs.Ytajjoanfojaeiaa

/- Contracts of the program's sets of locals: two as one, and as bits. -/
import Derived.Test.YtffkkhaiedhaiaaJLv0
import Derived.Test.YtffkkhaiedhaiaaJNx7
import Derived.Deep.Cut
namespace Go.Proofs.Ytffkkhaiedhaiaa
namespace Pg
open Go.ChangeShapes Go.WideShapes Go.ChangeAt Go.RowKit St

theorem infoL : (Try.prog.info? 89).map (·.size) = some 8 := by kernel_rfl
theorem zeroL : (Try.prog.info? 89).map (fun i => (i.zero, i.size)) = some (some (.agg (chi 8 fun _ => false).toArray), 8) := by kernel_rfl
theorem infoV : (Try.prog.info? 91).map (·.size) = some 320 := by kernel_rfl
theorem zeroV : (Try.prog.info? 91).map (fun i => (i.zero, i.size)) = some (some (.agg (chi 320 fun _ => false).toArray), 320) := by kernel_rfl
set_option maxRecDepth 100000 in
set_option maxHeartbeats 2000000 in
theorem withL_at (P Q : Nat → Bool) (w : World) :
    Calls Try.prog 115 #[.agg (chi 8 P).toArray, .agg (chi 8 Q).toArray] w fun e w' => e = .returned (.agg (chi 8 fun j => P j || Q j).toArray) ∧ Below w.heap.size w w' := by
  obtain ⟨W, hW⟩ : ∃ W, W = ((w.alloc (.cells (chi 8 P).toArray 89)).alloc (.cells (chi 8 Q).toArray 89)).alloc (.cells (chi 8 fun _ => false).toArray 89) := ⟨_, rfl⟩
  have hwW : Below w.heap.size w W := by rw [hW]; exact (((Below.refl _ _).alloc (Nat.le_refl _) _).alloc (by simp) _).alloc (by simp; omega) _
  have C0 : Hid (Cells W w.heap.size (chi 8 P)) := by show Cells _ _ _; rw [hW]; exact ((Cells.new w _ rfl _ _).alloc _).alloc _
  have C1 : Hid (Cells W (w.heap.size + 1) (chi 8 Q)) := by show Cells _ _ _; rw [hW]; exact (Cells.new (w.alloc _) _ (by simp) _ _).alloc _
  have C2 : Hid (Cells W (w.heap.size + 1 + 1) (chi 8 fun _ => false)) := by show Cells _ _ _; rw [hW]; exact Cells.new ((w.alloc _).alloc _) _ (by simp) _ _
  have C1' : Hid (Cells (((w.alloc (.cells (chi 8 P).toArray 89)).alloc (.cells (chi 8 Q).toArray 89)).alloc (.cells (chi 8 fun _ => false).toArray 89)) (w.heap.size + 1) (chi 8 Q)) := (Cells.new (w.alloc _) _ (by simp) _ _).alloc _
  have HW : Hid (W = ((w.alloc (.cells (chi 8 P).toArray 89)).alloc (.cells (chi 8 Q).toArray 89)).alloc (.cells (chi 8 fun _ => false).toArray 89)) := hW
  clear hW
  go_enter Try.func115, Try.ntmps115
  go_wp2_with (first
    | (with_reducible refine wpList_alloc_chi rfl 89 rfl 8 zeroL ?_)
    | (with_reducible refine wpList_load_mid rfl 89 (.tmp 3) rfl (w.heap.size + 1) 0 (by simp [Act.eval, Act.put]) (chi 8 Q) _ C1'.out.range Try.underlying89 rfl (by rw [infoL, chi_len]) ?_))
  rw [← HW.out]
  clear HW C1'
  go_loopw [8] (fun i wr => ∃ k : Nat, k ≤ 8 ∧ i = .int .i64 k ∧ Hid (Cells wr w.heap.size (chi 8 fun j => P j || (Q j && decide (j < k)))) ∧ Hid (Cells wr (w.heap.size + 1 + 1) (chi 8 fun _ => false)) ∧ Below w.heap.size w wr) (fun i _ => 8 - (intOf i).toNat)
  case atStart =>
    refine ⟨0, Nat.zero_le _, rfl, ?_, C2.out, hwW⟩
    show Cells _ _ _
    rw [chi_congr (Q := P) (fun j hj => by simp)]
    exact C0.out
  case round =>
    clear C0 C1 C2 hwW
    obtain ⟨k, hk, rfl, hc, hc2, hb⟩ := hrel
    by_cases hlt : k < 8
    · have hx := run_index_chi Try.underlying89 Q hlt wr
      have hki : (k : Int) < 8 := by omega
      obtain ⟨c0, f0⟩ := hc.out k _ (chi_at _ hlt)
      have hdk : decide (k < k) = false := by simp
      simp only [hdk, Bool.and_false, Bool.or_false] at c0
      have HC : Hid (∀ b, b = (P k || Q k) → Cells (wr.setCell ⟨w.heap.size, k, none⟩ (.bool b)) w.heap.size (chi 8 fun j => P j || (Q j && decide (j < k + 1)))) := fun b hb => by
        have h1 := hc.out.set k (.bool b)
        rw [chi_set] at h1
        rw [chi_congr (Q := fun j => if j = k then b else P j || (Q j && decide (j < k))) (fun j hj => by
          by_cases e : j = k
          · subst e; simp [hb]
          · have : decide (j < k + 1) = decide (j < k) := by rw [decide_eq_decide]; omega
            simp [e, this])]
        exact h1
      have HC2 : Hid (∀ b, Cells (wr.setCell ⟨w.heap.size, k, none⟩ (.bool b)) (w.heap.size + 1 + 1) (chi 8 fun _ => false)) := fun b => hc2.out.far _ _ (by simp; omega)
      have HB : Hid (∀ b, Below w.heap.size w (wr.setCell ⟨w.heap.size, k, none⟩ (.bool b))) := fun b => hb.setCell (Nat.le_refl _) _
      clear hc hc2 hdk
      cases hp : P k
      · rw [hp] at c0 HC
        clear hp
        generalize Q k = q at *
        go_wp2
        go_roundw
        case rel => exact ⟨k + 1, by omega, by go_num, HC.out _ (by simp), HC2.out _, HB.out _⟩
        case measure => simp [intOf]; omega
      · rw [hp] at c0 HC
        clear hp
        generalize Q k = q at *
        go_wp2
        go_roundw
        case rel => exact ⟨k + 1, by omega, by go_num, HC.out _ (by simp), HC2.out _, HB.out _⟩
        case measure => simp [intOf]; omega
    · have HC0 : Hid (Cells wr w.heap.size (chi 8 fun j => P j || Q j)) := by
        show Cells _ _ _
        rw [chi_congr (Q := fun j => P j || (Q j && decide (j < k))) (fun j hj => by
          have : decide (j < k) = true := by simp; omega
          rw [this, Bool.and_true])]
        exact hc.out
      have HC2 : Hid (Cells (wr.setCells (w.heap.size + 1 + 1) 0 (chi 8 fun j => P j || Q j)) (w.heap.size + 1 + 1) (chi 8 fun j => P j || Q j)) := hc2.out.put (by rw [chi_len, chi_len])
      have HCL : Hid ((chi 8 fun j => P j || Q j).length = 8) := chi_len _ _
      have HCO : Hid (∀ v ∈ (chi 8 fun j => P j || Q j), v.oneCell' = true) := chi_one _ _
      have hki : ¬ (k : Int) < 8 := by omega
      have hb2 : Below w.heap.size w (wr.setCells (w.heap.size + 1 + 1) 0 (chi 8 fun j => P j || Q j)) := below_setCells (by omega) _ _ hb
      clear hb hc
      generalize hcs : (chi 8 fun j => P j || Q j) = cs at *
      have HCS : Hid ((chi 8 fun j => P j || Q j) = cs) := hcs
      clear hcs
      go_wp2_with (first
        | (with_reducible refine wpList_load_mid rfl 89 (.tmp 2) rfl w.heap.size 0 (by simp [Act.eval, Act.put]) cs _ HC0.out.range Try.underlying89 rfl (by rw [infoL, HCL.out]) ?_)
        | (with_reducible refine wpList_store_mid rfl 89 (.tmp 4) (.tmp 21) rfl (w.heap.size + 1 + 1) 0 cs.toArray (by simp [Act.eval, Act.put]) (by simp [Act.eval, Act.put]) (hc2.out.there (by rw [chi_len]; simpa using HCL.out)) (by rw [infoL]; simpa using HCL.out.symm) (all_oneCell_toArray HCO.out) ?_))
      (try simp only [Exit.inBlock, Exit.then])
      refine bodyPost_ret (ret_cell rfl rfl HC2.out.range Try.underlying89 rfl (by rw [infoL, HCL.out])) rfl ?_
      exact ⟨by rw [HCS.out], hb2⟩
set_option maxRecDepth 100000 in
set_option maxHeartbeats 1000000 in
theorem bits_at (P : Nat → Bool) (w : World) :
    Calls Try.prog 58 #[.agg (chi 8 P).toArray] w fun e w' => e = .returned (.int .i64 (bn P 8 : Int)) ∧ Below w.heap.size w w' := by
  have C0 : Hid (Cells (w.alloc (.cells (chi 8 P).toArray 89)) w.heap.size (chi 8 P)) := Cells.new w _ rfl _ _
  have hb0 : Below w.heap.size w (w.alloc (.cells (chi 8 P).toArray 89)) := (Below.refl _ _).alloc (Nat.le_refl _) _
  go_enter Try.func58, Try.ntmps58
  go_wp2_with (with_reducible refine wpList_load_mid rfl 89 (.tmp 1) rfl w.heap.size 0 (by simp [Act.eval]) (chi 8 P) _ C0.out.range Try.underlying89 rfl (by rw [infoL, chi_len]) ?_)
  clear C0
  generalize w.alloc (.cells (chi 8 P).toArray 89) = X at *
  go_loopw [3, 7] (fun b i wr => ∃ k : Nat, k ≤ 8 ∧ i = .int .i64 k ∧ b = .int .i64 (bn P k : Int) ∧ wr = X) (fun _ i _ => 8 - (intOf i).toNat)
  case atStart => exact ⟨0, Nat.zero_le _, rfl, rfl, rfl⟩
  case round =>
    obtain ⟨k, hk, rfl, rfl, rfl⟩ := hrel
    by_cases hlt : k < 8
    · have hx := run_index_chi Try.underlying89 P hlt wr
      have hki : (k : Int) < 8 := by omega
      have HLT : Hid (bn P k < 2 ^ k) := bn_lt P k
      have HS : Hid (bn P (k + 1) = bn P k ||| (if P k then 2 ^ k else 0)) := rfl
      cases hp : P k
      · rw [hp] at hx HS
        have HE : Hid (bn P k = bn P (k + 1)) := by show _ = _; rw [HS.out]; simp
        clear hp HS
        go_wp2
        go_roundw
        case rel => exact ⟨k + 1, by omega, by go_num, by rw [HE.out], by simp⟩
        case measure => simp [intOf]; omega
      · rw [hp] at hx HS
        have HV : Hid (bits .or .i64 (bn P k : Int) (wrap64 (2 ^ k)) = (bn P (k + 1) : Int)) := by
          show _ = _
          have h2 : 2 ^ k < 256 := Nat.lt_of_lt_of_le (Nat.pow_lt_pow_right (by decide) hlt) (by decide)
          have e : wrap64 (2 ^ k) = ((2 ^ k : Nat) : Int) := by
            have h4 : ((2 ^ k : Nat) : Int) = (2 : Int) ^ k := by push_cast; rfl
            rw [← h4]
            exact (show ∀ q : Nat, q < 256 → wrap64 (q : Int) = (q : Int) from fun q hq => by unfold wrap64; omega) _ h2
          rw [e, or_nat _ _ (by have := HLT.out; omega) h2, HS.out]
          simp
        clear hp HS
        go_wp2
        go_roundw
        case rel => exact ⟨k + 1, by omega, by go_num, by rw [HV.out], by simp⟩
        case measure => simp [intOf]; omega
    · obtain rfl : k = 8 := by omega
      go_wp2
      go_ret
      exact ⟨rfl, hb0⟩
end Pg
end Go.Proofs.Ytffkkhaiedhaiaa

/- Contracts: what is live behind a step and ahead of it, as the program tells it. -/
namespace Go.Proofs.Ytffkkhaiedhaiaa
namespace Pg
open Go.ChangeShapes Go.WideShapes Go.ChangeAt Go.RowKit St

theorem flat_range {w : World} {b k : Nat} {L : Lvs} (h : Cells w b (chi 320 (flatP L))) (hk : k < 40) : w.rangeAt b (k * 8) (chi 8 (L k)) := fun j v hv => by
  have hj : j < 8 := by have := (List.getElem?_eq_some_iff.1 hv).1; rwa [chi_len] at this
  rw [chi_at _ hj] at hv
  injection hv with hv
  subst hv
  rw [← flat_at L k j hj]
  exact (h _ _ (chi_at _ (by omega))).1
theorem block_setCells {b k : Nat} (hne : k ≠ b) : ∀ (vs : List Value) (o : Nat) (v : World), (v.setCells b o vs).heap[k]? = v.heap[k]?
  | [], _, _ => rfl
  | x :: r, o, v => by
    rw [World.setCells, block_setCells hne r (o + 1)]
    exact Below.heap_setCell v ⟨b, o, none⟩ x k hne
theorem ris_any (P : Nat → Bool) (L : Lvs) (v : Nat) : (risL P 40).any (fun x => L x.toNat v) = (List.range 40).any fun j => P j && L j v := by
  rw [Bool.eq_iff_iff, List.any_eq_true, List.any_eq_true]
  constructor
  · rintro ⟨x, hx, hl⟩
    obtain ⟨j, hj, hp, rfl⟩ := risL_mem.1 hx
    exact ⟨j, List.mem_range.2 hj, by rw [hp]; simpa using hl⟩
  · rintro ⟨j, hj, hl⟩
    rw [Bool.and_eq_true] at hl
    exact ⟨(j : Int), risL_mem.2 ⟨j, List.mem_range.1 hj, hl.1, rfl⟩, by simpa using hl.2⟩
def partL (L : Lvs) (l : List Int) (m v : Nat) : Bool := (l.take m).any fun x => L x.toNat v
theorem partL_succ (L : Lvs) {l : List Int} {m : Nat} (hm : m < l.length) (v : Nat) : (partL L l m v || L l[m].toNat v) = partL L l (m + 1) v := by
  unfold partL
  rw [List.take_succ_eq_append_getElem hm, List.any_append]
  simp

set_option maxRecDepth 100000 in
set_option maxHeartbeats 4000000 in
theorem liveBehind_at (g yc : Nat) (code : List Tx.Ins) (hok : Lay.codeOk code = true) (k : Nat) (hk : k < code.length) (L : Lvs) (w : World) (hrow : Row w g 0 code) :
    Calls Try.prog 110 #[.slice (some ⟨g, 0, none⟩) code.length yc, .int .i64 k, .agg (chi 320 (flatP L)).toArray] w fun e w' => e = .returned (.agg (chi 8 (outF code k L)).toArray) ∧ Below w.heap.size w w' := by
  have HR : Hid (Row w g 0 code) := hrow
  have HOK : Hid (Lay.codeOk code = true) := hok
  obtain ⟨W, hW⟩ : ∃ W, W = ((w.alloc (.cells (chi 320 (flatP L)).toArray 91)).alloc (.cells (chi 8 fun _ => false).toArray 89)).alloc (.cells (chi 8 fun _ => false).toArray 89) := ⟨_, rfl⟩
  have hwW : Below w.heap.size w W := by rw [hW]; exact (((Below.refl _ _).alloc (Nat.le_refl _) _).alloc (by simp) _).alloc (by simp; omega) _
  have C0 : Hid (Cells W w.heap.size (chi 320 (flatP L))) := by show Cells _ _ _; rw [hW]; exact ((Cells.new w _ rfl _ _).alloc _).alloc _
  have C1 : Hid (Cells W (w.heap.size + 1) (chi 8 fun _ => false)) := by show Cells _ _ _; rw [hW]; exact (Cells.new (w.alloc _) _ (by simp) _ _).alloc _
  have C2 : Hid (Cells W (w.heap.size + 1 + 1) (chi 8 fun _ => false)) := by show Cells _ _ _; rw [hW]; exact Cells.new ((w.alloc _).alloc _) _ (by simp) _ _
  have HW : Hid (W = ((w.alloc (.cells (chi 320 (flatP L)).toArray 91)).alloc (.cells (chi 8 fun _ => false).toArray 89)).alloc (.cells (chi 8 fun _ => false).toArray 89)) := hW
  have HWZ : Hid (w.heap.size + 3 ≤ W.heap.size) := by show _ ≤ _; have := C2.out.lt' (by decide); omega
  clear hW hrow hok
  go_enter Try.func110, Try.ntmps110
  go_wp2_with (with_reducible refine wpList_alloc_chi rfl 89 rfl 8 zeroL ?_)
  rw [← HW.out]
  clear HW
  refine (nextsIn_at g yc code HOK.out k hk W (HR.out.on hwW)).mono ?_
  rintro e w1 ⟨rfl, hb1⟩
  have hw1 : Below w.heap.size w w1 := below_over hwW hb1
  have HB1 : Below W.heap.size W w1 := hb1
  clear hb1
  go_wp2_with fail
  refine (rising_at (nxB code k) w1).mono ?_
  rintro e w2 ⟨v, rfl, hg, hb2⟩
  have hw2 : Below w.heap.size w w2 := below_over hw1 hb2
  have HB2 : Below W.heap.size W w2 := below_over HB1 hb2
  have HS2 : Hid (SI true W.heap.size w2 v (risL (nxB code k) 40)) := (hg.base' HB1.size).gint.si
  obtain ⟨gv, cv, rfl⟩ := hg.form
  have D0 : Hid (Cells w2 w.heap.size (chi 320 (flatP L))) := C0.out.on HB2
  have D1 : Hid (Cells w2 (w.heap.size + 1) (chi 8 fun _ => false)) := C1.out.on HB2
  have D2 : Hid (Cells w2 (w.heap.size + 1 + 1) (chi 8 fun _ => false)) := C2.out.on HB2
  have HLN : (risL (nxB code k) 40).length ≤ 40 := risL_len _ _
  have HM : Hid (∀ x ∈ risL (nxB code k) 40, ∃ j : Nat, j < 40 ∧ x = (j : Int)) := fun x hx => by
    obtain ⟨j, hj, _, e⟩ := risL_mem.1 hx
    exact ⟨j, hj, e⟩
  have HOUT : Hid (∀ v, (risL (nxB code k) 40).any (fun x => L x.toNat v) = outF code k L v) := fun v => ris_any _ L v
  generalize risL (nxB code k) 40 = l at *
  clear hg hb2 HB1 HB2 hwW C0 C1 C2 hw1
  go_wp2_with fail
  go_loopw [15] (fun i wr => ∃ m : Nat, m ≤ l.length ∧ i = .int .i64 m ∧ Hid (SI true W.heap.size wr (.slice (some ⟨gv, 0, none⟩) l.length cv) l) ∧ Hid (Cells wr w.heap.size (chi 320 (flatP L))) ∧ Hid (Cells wr (w.heap.size + 1) (chi 8 fun _ => false)) ∧ Hid (Cells wr (w.heap.size + 1 + 1) (chi 8 (partL L l m))) ∧ Below w.heap.size w wr) (fun i _ => l.length - (intOf i).toNat)
  case atStart =>
    refine ⟨0, Nat.zero_le _, rfl, HS2.out, D0.out, D1.out, ?_, hw2⟩
    show Cells _ _ _
    rw [chi_congr (Q := fun _ => false) (fun j hj => by simp [partL])]
    exact D2.out
  case round =>
    clear HS2 D0 D1 D2 hw2
    obtain ⟨m, hm, rfl, hs, hc0, hc1, hc2, hb⟩ := hrel
    by_cases hlt : m < l.length
    · obtain ⟨bz, oz, hbz, hB, c0⟩ := Arr.get hs.out hlt
      obtain ⟨j, hj, hxj⟩ := HM.out _ (List.getElem_mem hlt)
      have c0' : wr.cell? ⟨gv, m, none⟩ = some (.int .i64 (j : Int)) := by
        have h := c0
        unfold IntAt at h
        injection hbz with hbz
        injection hbz with e1 e2
        subst e1 e2
        rw [Nat.mul_one, Nat.zero_add, hxj] at h
        exact h
      have HP : Hid (∀ v, (partL L l m v || L j v) = partL L l (m + 1) v) := fun v => by
        have := partL_succ L hlt v
        rw [hxj, Int.toNat_natCast] at this
        exact this
      clear c0 hxj hbz hB
      have hmi : (m : Int) < (l.length : Int) := by omega
      have hji : (j : Int) < 40 := by omega
      go_wp2_with fail
      clear c0'
      have hD0 : Below wr.heap.size wr wr.drew := (Below.refl _ _).drew
      refine wp_region_held_drew (S := fun y => Cells y w.heap.size (chi 320 (flatP L))) (by kernel_rfl) (hc0.out.on hD0) (fun hHeld => ?_)
      generalize wr.drew = Q0 at hD0 hHeld ⊢
      refine wpAnyH_take (i := 1) (v := ?_) rfl (by kernel_rfl) (by kernel_rfl) (by kernel_rfl) (fun _ _ _ h => h) (Or.inl ⟨by rfl, ?_⟩) hHeld ?_
      rotate_left 1
      · intro w' hSw
        go_simp
        try with_reducible rfl
      simp only [Act.put]
      refine wpAnyH_take (i := 2) (v := ?_) rfl (by kernel_rfl) (by kernel_rfl) (by kernel_rfl) (fun _ _ _ h => h) (Or.inl ⟨by rfl, ?_⟩) hHeld ?_
      rotate_left 1
      · intro w' hSw
        go_simp
        try with_reducible rfl
      simp only [Act.put]
      refine wpAnyH_take (i := 3) (v := .agg (chi 8 (L j)).toArray) rfl (by kernel_rfl) (by kernel_rfl) (by kernel_rfl) (fun _ _ _ h => h) (yieldsIf_load_mid rfl 89 (.tmp 21) rfl w.heap.size (j * 8) (by simp [Act.eval]) (chi 8 (L j)) _ (fun y hy => flat_range hy hj) Try.underlying89 rfl (by rw [infoL, chi_len])) hHeld ?_
      simp only [Act.put]
      refine wpAnyH_ready (rs := [0]) (by kernel_rfl) (by simp) ?_
      refine AllReadyH.cons rfl (fun K hK => ?_) AllReadyH.nil
      refine stepLoad rfl 89 (.tmp 7) rfl (w.heap.size + 1 + 1) 0 (by simp [Act.eval]) (chi 8 (partL L l m)) _ (hc2.out.on hD0).range Try.underlying89 rfl (by rw [infoL, chi_len]) ?_
      simp only [Act.put]
      refine hK.out _ _ hHeld (fun hHeld => ?_)
      clear hK K
      refine wpAnyH_ready (rs := [4]) (by kernel_rfl) (by simp) ?_
      refine AllReadyH.cons rfl (fun K hK => ?_) AllReadyH.nil
      go_simp
      refine (withL_at (partL L l m) (L j) Q0).mono ?_
      rintro e Q1 ⟨rfl, hq1⟩
      have hR1 : Below wr.heap.size wr Q1 := below_over hD0 hq1
      have E0 : Cells Q1 w.heap.size (chi 320 (flatP L)) := hc0.out.on hR1
      have E1 : Hid (Cells Q1 (w.heap.size + 1) (chi 8 fun _ => false)) := hc1.out.on hR1
      have E2 : Hid (Cells Q1 (w.heap.size + 1 + 1) (chi 8 (partL L l m))) := hc2.out.on hR1
      dsimp only
      refine hK.out _ _ E0 (fun hHeld => ?_)
      clear hK K
      have hN : chi 8 (fun v => partL L l m v || L j v) = chi 8 (partL L l (m + 1)) := chi_congr fun v _ => HP.out v
      rw [hN]
      clear hN HP
      have F0 : Cells (Q1.setCells (w.heap.size + 1 + 1) 0 (chi 8 (partL L l (m + 1)))) w.heap.size (chi 320 (flatP L)) := E0.putFar _ (by omega)
      have F1 : Hid (Cells (Q1.setCells (w.heap.size + 1 + 1) 0 (chi 8 (partL L l (m + 1)))) (w.heap.size + 1) (chi 8 fun _ => false)) := E1.out.putFar _ (by omega)
      have F2 : Hid (Cells (Q1.setCells (w.heap.size + 1 + 1) 0 (chi 8 (partL L l (m + 1)))) (w.heap.size + 1 + 1) (chi 8 (partL L l (m + 1)))) := E2.out.put (by rw [chi_len, chi_len])
      have hbF : Below w.heap.size w (Q1.setCells (w.heap.size + 1 + 1) 0 (chi 8 (partL L l (m + 1)))) := below_setCells (by omega) _ _ (below_over hb hR1)
      have FS : Hid (SI true W.heap.size (Q1.setCells (w.heap.size + 1 + 1) 0 (chi 8 (partL L l (m + 1)))) (.slice (some ⟨gv, 0, none⟩) l.length cv) l) := SI.on (SI.on hs.out (Keep.of hR1)) ⟨by rw [size_setCells]; exact Nat.le_refl _, fun q hq _ => block_setCells (by have := HWZ.out; omega) _ _ _⟩
      refine wpAnyH_ready (rs := [5]) (by kernel_rfl) (by simp) ?_
      refine AllReadyH.cons rfl (fun K hK => ?_) AllReadyH.nil
      refine stepStore rfl 89 (.tmp 7) (.tmp 23) rfl (w.heap.size + 1 + 1) 0 (chi 8 (partL L l (m + 1))).toArray (by simp [Act.eval]) (by simp [Act.eval]) (E2.out.there (by simp [chi_len])) (by rw [infoL]; simp [chi_len]) (all_oneCell_toArray (chi_one _ _)) ?_
      rw [List.toList_toArray]
      clear E0 E1 E2
      generalize Q1.setCells (w.heap.size + 1 + 1) 0 (chi 8 (partL L l (m + 1))) = X at *
      simp only [Act.put]
      refine hK.out _ _ F0 (fun hHeld => ?_)
      clear hK K
      have FF0 : Hid (Cells X w.heap.size (chi 320 (flatP L))) := F0
      clear F0
      refine wpAnyH_done (by kernel_rfl) ?_ _
      clear hHeld hD0 hR1 hq1 hc0 hc1 hc2 hs hb
      go_wp2
      go_roundw
      case rel => exact ⟨m + 1, by omega, by go_num, FS.out, FF0.out, F1.out, F2.out, hbF⟩
      case measure => simp [intOf]; omega
    · have HE : Hid (chi 8 (partL L l m) = chi 8 (outF code k L)) := by
        refine chi_congr fun v hv => ?_
        rw [← HOUT.out v]
        unfold partL
        rw [List.take_of_length_le (by omega)]
      have HC1 : Hid (Cells wr (w.heap.size + 1 + 1) (chi 8 (outF code k L))) := by show Cells _ _ _; rw [← HE.out]; exact hc2.out
      have hmi : ¬ (m : Int) < (l.length : Int) := by omega
      have HCL : Hid ((chi 8 (outF code k L)).length = 8) := chi_len _ _
      have HCO : Hid (∀ v ∈ chi 8 (outF code k L), v.oneCell' = true) := chi_one _ _
      have HC2 : Hid (Cells (wr.setCells (w.heap.size + 1) 0 (chi 8 (outF code k L))) (w.heap.size + 1) (chi 8 (outF code k L))) := hc1.out.put (by rw [chi_len, chi_len])
      have hb2 : Below w.heap.size w (wr.setCells (w.heap.size + 1) 0 (chi 8 (outF code k L))) := below_setCells (by omega) _ _ hb
      clear hb hc2 HE
      generalize hcs : chi 8 (outF code k L) = cs at *
      have HCS : Hid (chi 8 (outF code k L) = cs) := hcs
      clear hcs
      go_wp2_with (first
        | (with_reducible refine wpList_load_mid rfl 89 (.tmp 7) rfl (w.heap.size + 1 + 1) 0 (by simp [Act.eval]) cs _ HC1.out.range Try.underlying89 rfl (by rw [infoL, HCL.out]) ?_)
        | (with_reducible refine wpList_store_mid rfl 89 (.tmp 6) (.tmp 25) rfl (w.heap.size + 1) 0 cs.toArray (by simp [Act.eval, Act.put]) (by simp [Act.eval, Act.put]) (hc1.out.there (by rw [chi_len]; simpa using HCL.out)) (by rw [infoL]; simpa using HCL.out.symm) (all_oneCell_toArray HCO.out) ?_))
      (try simp only [Exit.inBlock, Exit.then])
      refine bodyPost_ret (ret_cell rfl rfl HC2.out.range Try.underlying89 rfl (by rw [infoL, HCL.out])) rfl ?_
      exact ⟨by rw [HCS.out], hb2⟩
end Pg
end Go.Proofs.Ytffkkhaiedhaiaa

/- Contracts: what is live ahead of a step, as the program tells it. -/
namespace Go.Proofs.Ytffkkhaiedhaiaa
namespace Pg
open Go.ChangeShapes Go.WideShapes Go.ChangeAt Go.RowKit St

theorem local_in {code : List Tx.Ins} (hok : Lay.codeOk code = true) {k : Nat} (hk : k < code.length) (h : (insF code k).1 = 2 ∨ (insF code k).1 = 3) : 0 ≤ (insF code k).2.1 ∧ (insF code k).2.1 < 8 := by
  have h1 := Lay.ok_at hok (ins_is hk)
  unfold Tx.okI at h1
  rw [if_neg (by rcases h with h | h <;> omega)] at h1
  simp only [Bool.and_eq_true, decide_eq_true_eq] at h1
  refine ⟨h1.1.1.1, ?_⟩
  have h2 := h1.1.1.2
  unfold Tx.limA at h2
  rcases h with h | h <;> rw [h] at h2 <;> simpa using h2

set_option maxRecDepth 100000 in
set_option maxHeartbeats 4000000 in
theorem liveAhead_at (g yc : Nat) (code : List Tx.Ins) (hok : Lay.codeOk code = true) (k : Nat) (hk : k < code.length) (L : Lvs) (w : World) (hrow : Row w g 0 code) :
    Calls Try.prog 95 #[.slice (some ⟨g, 0, none⟩) code.length yc, .int .i64 k, .agg (chi 320 (flatP L)).toArray] w fun e w' => e = .returned (.agg (chi 8 (liveF code k L)).toArray) ∧ Below w.heap.size w w' := by
  have HR : Hid (Row w g 0 code) := hrow
  have HOK : Hid (Lay.codeOk code = true) := hok
  have hki : (k : Int) < (code.length : Int) := by omega
  have HLI := fun h => local_in hok hk h
  have HLF : Hid (∀ v, liveF code k L v = inF (insF code k) v (outF code k L v)) := fun v => rfl
  have HII : Hid (code[k]? = some (insF code k)) := ins_is hk
  generalize insF code k = ins at *
  obtain ⟨op, A, b⟩ := ins
  dsimp only at HLI
  obtain ⟨W, hW⟩ : ∃ W, W = (w.alloc (.cells (chi 320 (flatP L)).toArray 91)).alloc (.cells (chi 8 fun _ => false).toArray 89) := ⟨_, rfl⟩
  have hwW : Below w.heap.size w W := by rw [hW]; exact ((Below.refl _ _).alloc (Nat.le_refl _) _).alloc (by simp) _
  have C1 : Hid (Cells W (w.heap.size + 1) (chi 8 fun _ => false)) := by show Cells _ _ _; rw [hW]; exact Cells.new (w.alloc _) _ (by simp) _ _
  have C0L : Hid (Cells ((w.alloc (.cells (chi 320 (flatP L)).toArray 91)).alloc (.cells (chi 8 fun _ => false).toArray 89)) w.heap.size (chi 320 (flatP L))) := (Cells.new w _ rfl _ _).alloc _
  have HW : Hid (W = (w.alloc (.cells (chi 320 (flatP L)).toArray 91)).alloc (.cells (chi 8 fun _ => false).toArray 89)) := hW
  clear hW hrow hok
  go_enter Try.func95, Try.ntmps95
  go_wp2_with (first
    | (with_reducible refine wpList_alloc_chi rfl 89 rfl 8 zeroL ?_)
    | (with_reducible refine wpList_load_mid rfl 91 (.tmp 5) rfl w.heap.size 0 (by simp [Act.eval, Act.put]) (chi 320 (flatP L)) _ C0L.out.range Try.underlying91 rfl (by rw [infoV, chi_len]) ?_))
  rw [← HW.out]
  clear HW C0L
  refine (liveBehind_at g yc code HOK.out k hk L W (HR.out.on hwW)).mono ?_
  rintro e w1 ⟨rfl, hb1⟩
  have hw1 : Below w.heap.size w w1 := below_over hwW hb1
  have D1 : Hid (Cells w1 (w.heap.size + 1) (chi 8 fun _ => false)) := C1.out.on hb1
  have hz1 : w.heap.size + 1 < w1.heap.size := D1.out.lt' (by decide)
  clear hb1 hwW C1
  have C7 : Hid (Cells (w1.alloc (.cells (chi 8 fun _ => false).toArray 89)) w1.heap.size (chi 8 fun _ => false)) := Cells.new w1 _ rfl _ _
  have E7 : Hid (Cells ((w1.alloc (.cells (chi 8 fun _ => false).toArray 89)).setCells w1.heap.size 0 (chi 8 (outF code k L))) w1.heap.size (chi 8 (outF code k L))) := C7.out.put (by rw [chi_len, chi_len])
  have E1 : Hid (Cells ((w1.alloc (.cells (chi 8 fun _ => false).toArray 89)).setCells w1.heap.size 0 (chi 8 (outF code k L))) (w.heap.size + 1) (chi 8 fun _ => false)) := (D1.out.alloc _).putFar _ (by omega)
  have hbY : Below w.heap.size w ((w1.alloc (.cells (chi 8 fun _ => false).toArray 89)).setCells w1.heap.size 0 (chi 8 (outF code k L))) := below_setCells (by omega) _ _ (hw1.alloc hw1.size _)
  have HPC : Hid (∀ v ∈ chi 8 (outF code k L), v.oneCell' = true) := chi_one _ _
  have HPL : Hid ((chi 8 (outF code k L)).length = 8) := chi_len _ _
  generalize hcs : chi 8 (outF code k L) = cs at *
  have HCS0 : Hid (chi 8 (outF code k L) = cs) := hcs
  clear hcs
  go_upto_region 2 with (first
    | (with_reducible refine wpList_alloc_chi rfl 89 rfl 8 zeroL ?_)
    | (with_reducible refine wpList_store_mid rfl 89 (.tmp 7) (.tmp 12) rfl w1.heap.size 0 cs.toArray (by simp [Act.eval, Act.put]) (by simp [Act.eval, Act.put]) (C7.out.there (by rw [chi_len]; simpa using HPL.out)) (by rw [infoL]; simpa using HPL.out.symm) (all_oneCell_toArray HPC.out) ?_))
  generalize (w1.alloc (.cells (chi 8 fun _ => false).toArray 89)).setCells w1.heap.size 0 cs = Y at *
  rw [← HCS0.out] at E7
  clear C7 HPC HPL HCS0 D1
  obtain ⟨d0, d1, d2⟩ := (HR.out.on hbY) k _ HII.out
  simp only [Nat.zero_add] at d0 d1 d2
  obtain ⟨ZW, hZW⟩ : ∃ ZW, ZW = Y.alloc (.cells #[.int .i64 op, .int .i64 A, .int .i64 b] 76) := ⟨_, rfl⟩
  have hzb : Below Y.heap.size Y ZW := by rw [hZW]; exact (Below.refl _ _).alloc (Nat.le_refl _) _
  have hbZ : Below w.heap.size w ZW := below_over hbY hzb
  replace E7 : Hid (Cells ZW w1.heap.size (chi 8 (outF code k L))) := E7.out.on hzb
  replace E1 : Hid (Cells ZW (w.heap.size + 1) (chi 8 fun _ => false)) := E1.out.on hzb
  have EI : Hid (Cells ZW Y.heap.size [.int .i64 op, .int .i64 A, .int .i64 b]) := by show Cells _ _ _; rw [hZW]; exact Cells.new Y _ rfl _ _
  have HZW : Hid (ZW = Y.alloc (.cells #[.int .i64 op, .int .i64 A, .int .i64 b] 76)) := hZW
  clear hZW hbY hzb
  go_upto_region 3 with fail
  rw [← HZW.out]
  clear HZW d0 d1 d2
  obtain ⟨i0, _⟩ := EI.out.g0
  obtain ⟨i1, _⟩ := EI.out.g1
  by_cases h2 : op = 2
  · subst h2
    obtain ⟨ha0, ha8⟩ := HLI (.inl rfl)
    obtain ⟨a, rfl⟩ := Int.eq_ofNat_of_zero_le ha0
    have ha : a < 8 := by omega
    obtain ⟨c7, f7⟩ := E7.out a _ (chi_at _ ha)
    clear HLI ha0
    have HCS : Hid (Cells (ZW.setCell ⟨w1.heap.size, a, none⟩ (.bool true)) w1.heap.size (chi 8 (liveF code k L))) := by
      have h1 := E7.out.set a (.bool true)
      rw [chi_set] at h1
      rw [chi_congr (Q := fun v => if v = a then true else outF code k L v) (fun v _ => by
        rw [HLF.out v]
        unfold inF
        dsimp only
        by_cases e : v = a
        · subst e; simp
        · have e' : ¬ ((a : Int) = (v : Int)) := by omega
          simp [e, e'])]
      exact h1
    have HC0 : Hid (Cells (ZW.setCell ⟨w1.heap.size, a, none⟩ (.bool true)) (w.heap.size + 1) (chi 8 fun _ => false)) := E1.out.far _ _ (by simp; omega)
    have hbX : Below w.heap.size w (ZW.setCell ⟨w1.heap.size, a, none⟩ (.bool true)) := hbZ.setCell (p := ⟨w1.heap.size, a, none⟩) (by simp; omega) _
    clear E1 E7 hbZ HLF
    go_upto_region 8 with fail
    generalize ZW.setCell ⟨w1.heap.size, a, none⟩ (.bool true) = X at *
    have HCL : Hid ((chi 8 (liveF code k L)).length = 8) := chi_len _ _
    have HCO : Hid (∀ v ∈ chi 8 (liveF code k L), v.oneCell' = true) := chi_one _ _
    have HC2 : Hid (Cells (X.setCells (w.heap.size + 1) 0 (chi 8 (liveF code k L))) (w.heap.size + 1) (chi 8 (liveF code k L))) := HC0.out.put (by rw [chi_len, chi_len])
    have hb2 : Below w.heap.size w (X.setCells (w.heap.size + 1) 0 (chi 8 (liveF code k L))) := below_setCells (by omega) _ _ hbX
    clear hbX
    generalize hcs : chi 8 (liveF code k L) = cs at *
    have HCQ : Hid (chi 8 (liveF code k L) = cs) := hcs
    clear hcs
    go_wp2_with (first
      | (with_reducible refine wpList_load_mid rfl 89 (.tmp 7) rfl w1.heap.size 0 (by simp [Act.eval]) cs _ HCS.out.range Try.underlying89 rfl (by rw [infoL, HCL.out]) ?_)
      | (with_reducible refine wpList_store_mid rfl 89 (.tmp 6) (.tmp 29) rfl (w.heap.size + 1) 0 cs.toArray (by simp [Act.eval, Act.put]) (by simp [Act.eval, Act.put]) (HC0.out.there (by rw [chi_len]; simpa using HCL.out)) (by rw [infoL]; simpa using HCL.out.symm) (all_oneCell_toArray HCO.out) ?_))
    (try simp only [Exit.inBlock, Exit.then])
    refine bodyPost_ret (ret_cell rfl rfl HC2.out.range Try.underlying89 rfl (by rw [infoL, HCL.out])) rfl ?_
    exact ⟨by rw [HCQ.out], hb2⟩
  · by_cases h3 : op = 3
    · subst h3
      obtain ⟨ha0, ha8⟩ := HLI (.inr rfl)
      obtain ⟨a, rfl⟩ := Int.eq_ofNat_of_zero_le ha0
      have ha : a < 8 := by omega
      obtain ⟨c7, f7⟩ := E7.out a _ (chi_at _ ha)
      clear HLI ha0 h2
      have HCS : Hid (Cells (ZW.setCell ⟨w1.heap.size, a, none⟩ (.bool false)) w1.heap.size (chi 8 (liveF code k L))) := by
        have h1 := E7.out.set a (.bool false)
        rw [chi_set] at h1
        rw [chi_congr (Q := fun v => if v = a then false else outF code k L v) (fun v _ => by
          rw [HLF.out v]
          unfold inF
          dsimp only
          by_cases e : v = a
          · subst e; simp
          · have e' : ¬ ((a : Int) = (v : Int)) := by omega
            simp [e, e'])]
        exact h1
      have HC0 : Hid (Cells (ZW.setCell ⟨w1.heap.size, a, none⟩ (.bool false)) (w.heap.size + 1) (chi 8 fun _ => false)) := E1.out.far _ _ (by simp; omega)
      have hbX : Below w.heap.size w (ZW.setCell ⟨w1.heap.size, a, none⟩ (.bool false)) := hbZ.setCell (p := ⟨w1.heap.size, a, none⟩) (by simp; omega) _
      clear E1 E7 hbZ HLF
      go_upto_region 8 with fail
      generalize ZW.setCell ⟨w1.heap.size, a, none⟩ (.bool false) = X at *
      have HCL : Hid ((chi 8 (liveF code k L)).length = 8) := chi_len _ _
      have HCO : Hid (∀ v ∈ chi 8 (liveF code k L), v.oneCell' = true) := chi_one _ _
      have HC2 : Hid (Cells (X.setCells (w.heap.size + 1) 0 (chi 8 (liveF code k L))) (w.heap.size + 1) (chi 8 (liveF code k L))) := HC0.out.put (by rw [chi_len, chi_len])
      have hb2 : Below w.heap.size w (X.setCells (w.heap.size + 1) 0 (chi 8 (liveF code k L))) := below_setCells (by omega) _ _ hbX
      clear hbX
      generalize hcs : chi 8 (liveF code k L) = cs at *
      have HCQ : Hid (chi 8 (liveF code k L) = cs) := hcs
      clear hcs
      go_wp2_with (first
        | (with_reducible refine wpList_load_mid rfl 89 (.tmp 7) rfl w1.heap.size 0 (by simp [Act.eval]) cs _ HCS.out.range Try.underlying89 rfl (by rw [infoL, HCL.out]) ?_)
        | (with_reducible refine wpList_store_mid rfl 89 (.tmp 6) (.tmp 29) rfl (w.heap.size + 1) 0 cs.toArray (by simp [Act.eval, Act.put]) (by simp [Act.eval, Act.put]) (HC0.out.there (by rw [chi_len]; simpa using HCL.out)) (by rw [infoL]; simpa using HCL.out.symm) (all_oneCell_toArray HCO.out) ?_))
      (try simp only [Exit.inBlock, Exit.then])
      refine bodyPost_ret (ret_cell rfl rfl HC2.out.range Try.underlying89 rfl (by rw [infoL, HCL.out])) rfl ?_
      exact ⟨by rw [HCQ.out], hb2⟩
    · have HCS : Hid (Cells ZW w1.heap.size (chi 8 (liveF code k L))) := by
        show Cells _ _ _
        rw [chi_congr (Q := outF code k L) (fun v _ => by rw [HLF.out v]; simp [inF, h2, h3])]
        exact E7.out
      have HC0 : Hid (Cells ZW (w.heap.size + 1) (chi 8 fun _ => false)) := E1.out
      have hbX := hbZ
      have h2b : (op == 2) = false := by simp [h2]
      have h3b : (op == 3) = false := by simp [h3]
      clear E1 E7 hbZ HLF HLI h2 h3
      go_upto_region 8 with fail
      clear EI i0 i1
      generalize ZW = X at *
      have HCL : Hid ((chi 8 (liveF code k L)).length = 8) := chi_len _ _
      have HCO : Hid (∀ v ∈ chi 8 (liveF code k L), v.oneCell' = true) := chi_one _ _
      have HC2 : Hid (Cells (X.setCells (w.heap.size + 1) 0 (chi 8 (liveF code k L))) (w.heap.size + 1) (chi 8 (liveF code k L))) := HC0.out.put (by rw [chi_len, chi_len])
      have hb2 : Below w.heap.size w (X.setCells (w.heap.size + 1) 0 (chi 8 (liveF code k L))) := below_setCells (by omega) _ _ hbX
      clear hbX
      generalize hcs : chi 8 (liveF code k L) = cs at *
      have HCQ : Hid (chi 8 (liveF code k L) = cs) := hcs
      clear hcs
      go_wp2_with (first
        | (with_reducible refine wpList_load_mid rfl 89 (.tmp 7) rfl w1.heap.size 0 (by simp [Act.eval]) cs _ HCS.out.range Try.underlying89 rfl (by rw [infoL, HCL.out]) ?_)
        | (with_reducible refine wpList_store_mid rfl 89 (.tmp 6) (.tmp 29) rfl (w.heap.size + 1) 0 cs.toArray (by simp [Act.eval, Act.put]) (by simp [Act.eval, Act.put]) (HC0.out.there (by rw [chi_len]; simpa using HCL.out)) (by rw [infoL]; simpa using HCL.out.symm) (all_oneCell_toArray HCO.out) ?_))
      (try simp only [Exit.inBlock, Exit.then])
      refine bodyPost_ret (ret_cell rfl rfl HC2.out.range Try.underlying89 rfl (by rw [infoL, HCL.out])) rfl ?_
      exact ⟨by rw [HCQ.out], hb2⟩
end Pg
end Go.Proofs.Ytffkkhaiedhaiaa

/- Contracts: what is live behind a step and ahead of it, as the program tells it. -/
import Derived.Test.YthabenjodhjgiabLv1
import Derived.Test.YthabenjodhjgiabNx7
namespace Go.Proofs.Ythabenjodhjgiab
namespace Pg
open Go.ChangeShapes Go.WideShapes Go.ChangeAt Go.RowKit St

theorem flat_range {w : World} {b k : Nat} {L : Lvs} (h : Cells w b (chi 320 (flatP L))) (hk : k < 40) : w.rangeAt b (k * 8) (chi 8 (L k)) := fun j v hv => by
  have hj : j < 8 := by have := (List.getElem?_eq_some_iff.1 hv).1; rwa [chi_len] at this
  rw [chi_at _ hj] at hv
  injection hv with hv
  subst hv
  rw [← flat_at L k j hj]
  exact (h _ _ (chi_at _ (by omega))).1
theorem block_setCells {b k : Nat} (hne : k ≠ b) : ∀ (vs : List Value) (o : Nat) (v : World), (v.setCells b o vs).heap[k]? = v.heap[k]?
  | [], _, _ => rfl
  | x :: r, o, v => by
    rw [World.setCells, block_setCells hne r (o + 1)]
    exact Below.heap_setCell v ⟨b, o, none⟩ x k hne
theorem ris_any (P : Nat → Bool) (L : Lvs) (v : Nat) : (risL P 40).any (fun x => L x.toNat v) = (List.range 40).any fun j => P j && L j v := by
  rw [Bool.eq_iff_iff, List.any_eq_true, List.any_eq_true]
  constructor
  · rintro ⟨x, hx, hl⟩
    obtain ⟨j, hj, hp, rfl⟩ := risL_mem.1 hx
    exact ⟨j, List.mem_range.2 hj, by rw [hp]; simpa using hl⟩
  · rintro ⟨j, hj, hl⟩
    rw [Bool.and_eq_true] at hl
    exact ⟨(j : Int), risL_mem.2 ⟨j, List.mem_range.1 hj, hl.1, rfl⟩, by simpa using hl.2⟩
def partL (L : Lvs) (l : List Int) (m v : Nat) : Bool := (l.take m).any fun x => L x.toNat v
theorem partL_succ (L : Lvs) {l : List Int} {m : Nat} (hm : m < l.length) (v : Nat) : (partL L l m v || L l[m].toNat v) = partL L l (m + 1) v := by
  unfold partL
  rw [List.take_succ_eq_append_getElem hm, List.any_append]
  simp

set_option maxRecDepth 100000 in
set_option maxHeartbeats 4000000 in
theorem liveBehind_at (g yc : Nat) (code : List Tx.Ins) (hok : Lay.codeOk code = true) (k : Nat) (hk : k < code.length) (L : Lvs) (w : World) (hrow : Row w g 0 code) :
    Calls Try.prog 36 #[.slice (some ⟨g, 0, none⟩) code.length yc, .int .i64 k, .agg (chi 320 (flatP L)).toArray] w fun e w' => e = .returned (.agg (chi 8 (outF code k L)).toArray) ∧ Below w.heap.size w w' := by
  have HR : Hid (Row w g 0 code) := hrow
  have HOK : Hid (Lay.codeOk code = true) := hok
  obtain ⟨W, hW⟩ : ∃ W, W = ((w.alloc (.cells (chi 320 (flatP L)).toArray 52)).alloc (.cells (chi 8 fun _ => false).toArray 50)).alloc (.cells (chi 8 fun _ => false).toArray 50) := ⟨_, rfl⟩
  have hwW : Below w.heap.size w W := by rw [hW]; exact (((Below.refl _ _).alloc (Nat.le_refl _) _).alloc (by simp) _).alloc (by simp; omega) _
  have C0 : Hid (Cells W w.heap.size (chi 320 (flatP L))) := by show Cells _ _ _; rw [hW]; exact ((Cells.new w _ rfl _ _).alloc _).alloc _
  have C1 : Hid (Cells W (w.heap.size + 1) (chi 8 fun _ => false)) := by show Cells _ _ _; rw [hW]; exact (Cells.new (w.alloc _) _ (by simp) _ _).alloc _
  have C2 : Hid (Cells W (w.heap.size + 1 + 1) (chi 8 fun _ => false)) := by show Cells _ _ _; rw [hW]; exact Cells.new ((w.alloc _).alloc _) _ (by simp) _ _
  have HW : Hid (W = ((w.alloc (.cells (chi 320 (flatP L)).toArray 52)).alloc (.cells (chi 8 fun _ => false).toArray 50)).alloc (.cells (chi 8 fun _ => false).toArray 50)) := hW
  have HWZ : Hid (w.heap.size + 3 ≤ W.heap.size) := by show _ ≤ _; have := C2.out.lt' (by decide); omega
  clear hW hrow hok
  go_enter Try.func36, Try.ntmps36
  go_wp2_with (with_reducible refine wpList_alloc_chi rfl 50 rfl 8 zeroL ?_)
  rw [← HW.out]
  clear HW
  refine (nextsIn_at g yc code HOK.out k hk W (HR.out.on hwW)).mono ?_
  rintro e w1 ⟨rfl, hb1⟩
  have hw1 : Below w.heap.size w w1 := below_over hwW hb1
  have HB1 : Below W.heap.size W w1 := hb1
  clear hb1
  go_wp2_with fail
  refine (rising_at (nxB code k) w1).mono ?_
  rintro e w2 ⟨v, rfl, hg, hb2⟩
  have hw2 : Below w.heap.size w w2 := below_over hw1 hb2
  have HB2 : Below W.heap.size W w2 := below_over HB1 hb2
  have HS2 : Hid (SI true W.heap.size w2 v (risL (nxB code k) 40)) := (hg.base' HB1.size).gint.si
  obtain ⟨gv, cv, rfl⟩ := hg.form
  have D0 : Hid (Cells w2 w.heap.size (chi 320 (flatP L))) := C0.out.on HB2
  have D1 : Hid (Cells w2 (w.heap.size + 1) (chi 8 fun _ => false)) := C1.out.on HB2
  have D2 : Hid (Cells w2 (w.heap.size + 1 + 1) (chi 8 fun _ => false)) := C2.out.on HB2
  have HLN : (risL (nxB code k) 40).length ≤ 40 := risL_len _ _
  have HM : Hid (∀ x ∈ risL (nxB code k) 40, ∃ j : Nat, j < 40 ∧ x = (j : Int)) := fun x hx => by
    obtain ⟨j, hj, _, e⟩ := risL_mem.1 hx
    exact ⟨j, hj, e⟩
  have HOUT : Hid (∀ v, (risL (nxB code k) 40).any (fun x => L x.toNat v) = outF code k L v) := fun v => ris_any _ L v
  generalize risL (nxB code k) 40 = l at *
  clear hg hb2 HB1 HB2 hwW C0 C1 C2 hw1
  go_wp2_with fail
  go_loopw [15] (fun i wr => ∃ m : Nat, m ≤ l.length ∧ i = .int .i64 m ∧ Hid (SI true W.heap.size wr (.slice (some ⟨gv, 0, none⟩) l.length cv) l) ∧ Hid (Cells wr w.heap.size (chi 320 (flatP L))) ∧ Hid (Cells wr (w.heap.size + 1) (chi 8 fun _ => false)) ∧ Hid (Cells wr (w.heap.size + 1 + 1) (chi 8 (partL L l m))) ∧ Below w.heap.size w wr) (fun i _ => l.length - (intOf i).toNat)
  case atStart =>
    refine ⟨0, Nat.zero_le _, rfl, HS2.out, D0.out, D1.out, ?_, hw2⟩
    show Cells _ _ _
    rw [chi_congr (Q := fun _ => false) (fun j hj => by simp [partL])]
    exact D2.out
  case round =>
    clear HS2 D0 D1 D2 hw2
    obtain ⟨m, hm, rfl, hs, hc0, hc1, hc2, hb⟩ := hrel
    by_cases hlt : m < l.length
    · obtain ⟨bz, oz, hbz, hB, c0⟩ := Arr.get hs.out hlt
      obtain ⟨j, hj, hxj⟩ := HM.out _ (List.getElem_mem hlt)
      have c0' : wr.cell? ⟨gv, m, none⟩ = some (.int .i64 (j : Int)) := by
        have h := c0
        unfold IntAt at h
        injection hbz with hbz
        injection hbz with e1 e2
        subst e1 e2
        rw [Nat.mul_one, Nat.zero_add, hxj] at h
        exact h
      have HP : Hid (∀ v, (partL L l m v || L j v) = partL L l (m + 1) v) := fun v => by
        have := partL_succ L hlt v
        rw [hxj, Int.toNat_natCast] at this
        exact this
      clear c0 hxj hbz hB
      have hmi : (m : Int) < (l.length : Int) := by omega
      have hji : (j : Int) < 40 := by omega
      go_wp2_with fail
      clear c0'
      have hD0 : Below wr.heap.size wr wr.drew := (Below.refl _ _).drew
      refine wp_region_held_drew (S := fun y => Cells y w.heap.size (chi 320 (flatP L))) (by kernel_rfl) (hc0.out.on hD0) (fun hHeld => ?_)
      generalize wr.drew = Q0 at hD0 hHeld ⊢
      refine wpAnyH_take (i := 1) (v := ?_) rfl (by kernel_rfl) (by kernel_rfl) (by kernel_rfl) (fun _ _ _ h => h) (Or.inl ⟨by rfl, ?_⟩) hHeld ?_
      rotate_left 1
      · intro w' hSw
        go_simp
        try with_reducible rfl
      simp only [Act.put]
      refine wpAnyH_take (i := 2) (v := ?_) rfl (by kernel_rfl) (by kernel_rfl) (by kernel_rfl) (fun _ _ _ h => h) (Or.inl ⟨by rfl, ?_⟩) hHeld ?_
      rotate_left 1
      · intro w' hSw
        go_simp
        try with_reducible rfl
      simp only [Act.put]
      refine wpAnyH_take (i := 3) (v := .agg (chi 8 (L j)).toArray) rfl (by kernel_rfl) (by kernel_rfl) (by kernel_rfl) (fun _ _ _ h => h) (yieldsIf_load_mid rfl 50 (.tmp 21) rfl w.heap.size (j * 8) (by simp [Act.eval]) (chi 8 (L j)) _ (fun y hy => flat_range hy hj) Try.underlying50 rfl (by rw [infoL, chi_len])) hHeld ?_
      simp only [Act.put]
      refine wpAnyH_ready (rs := [0]) (by kernel_rfl) (by simp) ?_
      refine AllReadyH.cons rfl (fun K hK => ?_) AllReadyH.nil
      refine stepLoad rfl 50 (.tmp 7) rfl (w.heap.size + 1 + 1) 0 (by simp [Act.eval]) (chi 8 (partL L l m)) _ (hc2.out.on hD0).range Try.underlying50 rfl (by rw [infoL, chi_len]) ?_
      simp only [Act.put]
      refine hK.out _ _ hHeld (fun hHeld => ?_)
      clear hK K
      refine wpAnyH_ready (rs := [4]) (by kernel_rfl) (by simp) ?_
      refine AllReadyH.cons rfl (fun K hK => ?_) AllReadyH.nil
      go_simp
      refine (withL_at (partL L l m) (L j) Q0).mono ?_
      rintro e Q1 ⟨rfl, hq1⟩
      have hR1 : Below wr.heap.size wr Q1 := below_over hD0 hq1
      have E0 : Cells Q1 w.heap.size (chi 320 (flatP L)) := hc0.out.on hR1
      have E1 : Hid (Cells Q1 (w.heap.size + 1) (chi 8 fun _ => false)) := hc1.out.on hR1
      have E2 : Hid (Cells Q1 (w.heap.size + 1 + 1) (chi 8 (partL L l m))) := hc2.out.on hR1
      dsimp only
      refine hK.out _ _ E0 (fun hHeld => ?_)
      clear hK K
      have hN : chi 8 (fun v => partL L l m v || L j v) = chi 8 (partL L l (m + 1)) := chi_congr fun v _ => HP.out v
      rw [hN]
      clear hN HP
      have F0 : Cells (Q1.setCells (w.heap.size + 1 + 1) 0 (chi 8 (partL L l (m + 1)))) w.heap.size (chi 320 (flatP L)) := E0.putFar _ (by omega)
      have F1 : Hid (Cells (Q1.setCells (w.heap.size + 1 + 1) 0 (chi 8 (partL L l (m + 1)))) (w.heap.size + 1) (chi 8 fun _ => false)) := E1.out.putFar _ (by omega)
      have F2 : Hid (Cells (Q1.setCells (w.heap.size + 1 + 1) 0 (chi 8 (partL L l (m + 1)))) (w.heap.size + 1 + 1) (chi 8 (partL L l (m + 1)))) := E2.out.put (by rw [chi_len, chi_len])
      have hbF : Below w.heap.size w (Q1.setCells (w.heap.size + 1 + 1) 0 (chi 8 (partL L l (m + 1)))) := below_setCells (by omega) _ _ (below_over hb hR1)
      have FS : Hid (SI true W.heap.size (Q1.setCells (w.heap.size + 1 + 1) 0 (chi 8 (partL L l (m + 1)))) (.slice (some ⟨gv, 0, none⟩) l.length cv) l) := SI.on (SI.on hs.out (Keep.of hR1)) ⟨by rw [size_setCells]; exact Nat.le_refl _, fun q hq _ => block_setCells (by have := HWZ.out; omega) _ _ _⟩
      refine wpAnyH_ready (rs := [5]) (by kernel_rfl) (by simp) ?_
      refine AllReadyH.cons rfl (fun K hK => ?_) AllReadyH.nil
      refine stepStore rfl 50 (.tmp 7) (.tmp 23) rfl (w.heap.size + 1 + 1) 0 (chi 8 (partL L l (m + 1))).toArray (by simp [Act.eval]) (by simp [Act.eval]) (E2.out.there (by simp [chi_len])) (by rw [infoL]; simp [chi_len]) (all_oneCell_toArray (chi_one _ _)) ?_
      rw [List.toList_toArray]
      clear E0 E1 E2
      generalize Q1.setCells (w.heap.size + 1 + 1) 0 (chi 8 (partL L l (m + 1))) = X at *
      simp only [Act.put]
      refine hK.out _ _ F0 (fun hHeld => ?_)
      clear hK K
      have FF0 : Hid (Cells X w.heap.size (chi 320 (flatP L))) := F0
      clear F0
      refine wpAnyH_done (by kernel_rfl) ?_ _
      clear hHeld hD0 hR1 hq1 hc0 hc1 hc2 hs hb
      go_wp2
      go_roundw
      case rel => exact ⟨m + 1, by omega, by go_num, FS.out, FF0.out, F1.out, F2.out, hbF⟩
      case measure => simp [intOf]; omega
    · have HE : Hid (chi 8 (partL L l m) = chi 8 (outF code k L)) := by
        refine chi_congr fun v hv => ?_
        rw [← HOUT.out v]
        unfold partL
        rw [List.take_of_length_le (by omega)]
      have HC1 : Hid (Cells wr (w.heap.size + 1 + 1) (chi 8 (outF code k L))) := by show Cells _ _ _; rw [← HE.out]; exact hc2.out
      have hmi : ¬ (m : Int) < (l.length : Int) := by omega
      have HCL : Hid ((chi 8 (outF code k L)).length = 8) := chi_len _ _
      have HCO : Hid (∀ v ∈ chi 8 (outF code k L), v.oneCell' = true) := chi_one _ _
      have HC2 : Hid (Cells (wr.setCells (w.heap.size + 1) 0 (chi 8 (outF code k L))) (w.heap.size + 1) (chi 8 (outF code k L))) := hc1.out.put (by rw [chi_len, chi_len])
      have hb2 : Below w.heap.size w (wr.setCells (w.heap.size + 1) 0 (chi 8 (outF code k L))) := below_setCells (by omega) _ _ hb
      clear hb hc2 HE
      generalize hcs : chi 8 (outF code k L) = cs at *
      have HCS : Hid (chi 8 (outF code k L) = cs) := hcs
      clear hcs
      go_wp2_with (first
        | (with_reducible refine wpList_load_mid rfl 50 (.tmp 7) rfl (w.heap.size + 1 + 1) 0 (by simp [Act.eval]) cs _ HC1.out.range Try.underlying50 rfl (by rw [infoL, HCL.out]) ?_)
        | (with_reducible refine wpList_store_mid rfl 50 (.tmp 6) (.tmp 25) rfl (w.heap.size + 1) 0 cs.toArray (by simp [Act.eval, Act.put]) (by simp [Act.eval, Act.put]) (hc1.out.there (by rw [chi_len]; simpa using HCL.out)) (by rw [infoL]; simpa using HCL.out.symm) (all_oneCell_toArray HCO.out) ?_))
      (try simp only [Exit.inBlock, Exit.then])
      refine bodyPost_ret (ret_cell rfl rfl HC2.out.range Try.underlying50 rfl (by rw [infoL, HCL.out])) rfl ?_
      exact ⟨by rw [HCS.out], hb2⟩
end Pg
end Go.Proofs.Ythabenjodhjgiab

/- Contracts: the program's DeadStores and Unstored. -/
import Derived.Test.YthabenjodhjgiabDe0
import Derived.Test.YthabenjodhjgiabFo3
import Derived.Deep.Cut
namespace Go.Proofs.Ythabenjodhjgiab
namespace Pg
open Go.ChangeShapes Go.WideShapes Go.ChangeAt Go.RowKit St

theorem outF_congr {code : List Tx.Ins} {k v : Nat} {A B : Lvs} (h : ∀ j, j < code.length → A j v = B j v) : outF code k A v = outF code k B v := by
  have h1 := outF_mono (code := code) (k := k) (A := A) (B := B) (v := v) (fun j hj e => by rw [← h j hj]; exact e)
  have h2 := outF_mono (code := code) (k := k) (A := B) (B := A) (v := v) (fun j hj e => by rw [h j hj]; exact e)
  cases ha : outF code k A v <;> cases hb : outF code k B v
  · rfl
  · rw [h2 hb] at ha; simp at ha
  · rw [h1 ha] at hb; simp at hb
  · rfl
theorem irow_far {w : World} {b g o : Nat} {l : List Int} (h : IRow w g o l) (i : Nat) (v : Value) (hn : b ≠ g) : IRow (w.setCell ⟨b, i, none⟩ v) g o l := fun j x hj => (World.cell?_setCell_other _ _ _ _ (fun e => hn (by injection e))).trans (h j x hj)
theorem set_oneD {B : Nat} {u w : World} {g k n : Nat} {l : List Tx.Ins} (hn : l.length = n) (hroom : Room w g (n * 3)) (hr : Row w g 0 l) (hb : Below B u w) (hB : B ≤ g) (x : Tx.Ins) :
    Row (((w.setCell ⟨g, k * 3, none⟩ (.int .i64 x.1)).setCell ⟨g, k * 3 + 1, none⟩ (.int .i64 x.2.1)).setCell ⟨g, k * 3 + 2, none⟩ (.int .i64 x.2.2)) g 0 (l.set k x) ∧
      Room (((w.setCell ⟨g, k * 3, none⟩ (.int .i64 x.1)).setCell ⟨g, k * 3 + 1, none⟩ (.int .i64 x.2.1)).setCell ⟨g, k * 3 + 2, none⟩ (.int .i64 x.2.2)) g (n * 3) ∧
      Below B u (((w.setCell ⟨g, k * 3, none⟩ (.int .i64 x.1)).setCell ⟨g, k * 3 + 1, none⟩ (.int .i64 x.2.1)).setCell ⟨g, k * 3 + 2, none⟩ (.int .i64 x.2.2)) := by
  subst hn
  exact ⟨row_set3 hroom hr x, room_setC (room_setC (room_setC hroom _ _) _ _) _ _, ((hb.setCell hB _).setCell hB _).setCell hB _⟩
theorem dead_step {code : List Tx.Ins} {k : Nat} {b : Bool} (hb : b = deadB code k) (j : Nat) : (decide (j < k + 1) && deadB code j) = if j = k then b else (decide (j < k) && deadB code j) := by
  by_cases e : j = k
  · subst e; simp [hb]
  · rw [if_neg e, show decide (j < k + 1) = decide (j < k) from by by_cases h : j < k <;> simp [h] <;> omega]
set_option maxRecDepth 100000 in
set_option maxHeartbeats 4000000 in
theorem deadStoresIn_at (g yc : Nat) (code : List Tx.Ins) (hok : Lay.codeOk code = true) (w : World) (hrow : Row w g 0 code) :
    Calls Try.prog 21 #[.slice (some ⟨g, 0, none⟩) code.length yc] w fun e w' => e = .returned (.agg (chi 40 (deadB code)).toArray) ∧ Below w.heap.size w w' := by
  have hl40 := (Lay.ok_len hok).2
  have hl0 := (Lay.ok_len hok).1
  have hli : (code.length : Int) ≤ 40 := by omega
  have HR : Hid (Row w g 0 code) := hrow
  have HOK : Hid (Lay.codeOk code = true) := hok
  obtain ⟨W, hW⟩ : ∃ W, W = (w.alloc (.cells (chi 40 fun _ => false).toArray 40)).alloc (.cells (chi 40 fun _ => false).toArray 40) := ⟨_, rfl⟩
  have hwW : Below w.heap.size w W := by rw [hW]; exact ((Below.refl _ _).alloc (Nat.le_refl _) _).alloc (by simp) _
  have C0 : Hid (Cells W w.heap.size (chi 40 fun _ => false)) := by show Cells _ _ _; rw [hW]; exact (Cells.new w _ rfl _ _).alloc _
  have C1 : Hid (Cells W (w.heap.size + 1) (chi 40 fun _ => false)) := by show Cells _ _ _; rw [hW]; exact Cells.new (w.alloc _) _ (by simp) _ _
  have HW : Hid (W = (w.alloc (.cells (chi 40 fun _ => false).toArray 40)).alloc (.cells (chi 40 fun _ => false).toArray 40)) := hW
  clear hW hrow hok
  go_enter Try.func21, Try.ntmps21
  go_wp2_with (with_reducible refine wpList_alloc_chi rfl 40 rfl 40 zeroS ?_)
  rw [← HW.out]
  clear HW
  refine (reachedIn_at g yc code HOK.out W (HR.out.on hwW)).mono ?_
  rintro e w1 ⟨rfl, hb1⟩
  have hw1 : Below w.heap.size w w1 := below_over hwW hb1
  have D0 : Hid (Cells w1 w.heap.size (chi 40 fun _ => false)) := C0.out.on hb1
  have D1 : Hid (Cells w1 (w.heap.size + 1) (chi 40 fun _ => false)) := C1.out.on hb1
  clear C0 C1 hb1 hwW
  go_wp2_with fail
  refine (liveIn_at g yc code HOK.out w1 (HR.out.on hw1)).mono ?_
  rintro e w2 ⟨L, rfl, hL, hb2⟩
  have HL : Hid (∀ k v, k < code.length → v < 8 → L k v = lvB code k v) := hL
  have hw2 : Below w.heap.size w w2 := below_over hw1 hb2
  have F0 : Hid (Cells w2 w.heap.size (chi 40 fun _ => false)) := D0.out.on hb2
  have F1 : Hid (Cells w2 (w.heap.size + 1) (chi 40 fun _ => false)) := D1.out.on hb2
  have hz1 : w.heap.size + 1 < w2.heap.size := F1.out.lt' (by decide)
  clear D0 D1 hb2 hw1 hL
  have LR : Hid ((chi 40 (rchB code)).length = 40) := chi_len _ _
  have LV : Hid ((chi 320 (flatP L)).length = 320) := chi_len _ _
  have OR : Hid (∀ v ∈ chi 40 (rchB code), v.oneCell' = true) := chi_one _ _
  have OV : Hid (∀ v ∈ chi 320 (flatP L), v.oneCell' = true) := chi_one _ _
  have AR : Hid (∀ j, j < 40 → (chi 40 (rchB code))[j]? = some (.bool (rchB code j))) := fun j hj => chi_at _ hj
  have HCB : Hid (∀ (k : Nat) (_ : k < code.length) (u : World), Row u g 0 code → Calls Try.prog 36 #[.slice (some ⟨g, 0, none⟩) code.length yc, .int .i64 k, .agg (chi 320 (flatP L)).toArray] u fun e w' => e = .returned (.agg (chi 8 (outF code k L)).toArray) ∧ Below u.heap.size u w') := fun k hk u hu => liveBehind_at g yc code HOK.out k hk L u hu
  generalize hcr : chi 40 (rchB code) = cr at *
  generalize hcv : chi 320 (flatP L) = cv at *
  clear hcr hcv
  obtain ⟨X, hX⟩ : ∃ X, X = (w2.alloc (.cells (chi 40 fun _ => false).toArray 40)).alloc (.cells (chi 320 fun _ => false).toArray 52) := ⟨_, rfl⟩
  have hbX : Below w2.heap.size w2 X := by rw [hX]; exact ((Below.refl _ _).alloc (Nat.le_refl _) _).alloc (by simp) _
  have K4 : Hid (Cells X w2.heap.size (chi 40 fun _ => false)) := by show Cells _ _ _; rw [hX]; exact (Cells.new w2 _ rfl _ _).alloc _
  have K5 : Hid (Cells X (w2.heap.size + 1) (chi 320 fun _ => false)) := by show Cells _ _ _; rw [hX]; exact Cells.new (w2.alloc _) _ (by simp) _ _
  have K5' : Hid (Cells (X.setCells w2.heap.size 0 cr) (w2.heap.size + 1) (chi 320 fun _ => false)) := K5.out.putFar _ (by omega)
  have HX : Hid (X = (w2.alloc (.cells (chi 40 fun _ => false).toArray 40)).alloc (.cells (chi 320 fun _ => false).toArray 52)) := hX
  have E0 : Hid (Cells ((X.setCells w2.heap.size 0 cr).setCells (w2.heap.size + 1) 0 cv) w.heap.size (chi 40 fun _ => false)) := ((F0.out.on hbX).putFar _ (by omega)).putFar _ (by omega)
  have E1 : Hid (Cells ((X.setCells w2.heap.size 0 cr).setCells (w2.heap.size + 1) 0 cv) (w.heap.size + 1) (chi 40 fun _ => false)) := ((F1.out.on hbX).putFar _ (by omega)).putFar _ (by omega)
  have E4 : Hid (Cells ((X.setCells w2.heap.size 0 cr).setCells (w2.heap.size + 1) 0 cv) w2.heap.size cr) := (K4.out.put (by rw [chi_len]; exact LR.out)).putFar _ (by omega)
  have E5 : Hid (Cells ((X.setCells w2.heap.size 0 cr).setCells (w2.heap.size + 1) 0 cv) (w2.heap.size + 1) cv) := K5'.out.put (by rw [chi_len]; exact LV.out)
  have hbE : Below w.heap.size w ((X.setCells w2.heap.size 0 cr).setCells (w2.heap.size + 1) 0 cv) := below_setCells (Nat.le_succ_of_le hw2.size) _ _ (below_setCells hw2.size _ _ (below_over hw2 hbX))
  have T4 : Hid (((w2.alloc (.cells (chi 40 fun _ => false).toArray 40)).alloc (.cells (chi 320 fun _ => false).toArray 52)).there w2.heap.size 0 cr.toArray.size) := by rw [← hX]; exact K4.out.there (by rw [chi_len]; simpa using LR.out)
  have T5 : Hid ((((w2.alloc (.cells (chi 40 fun _ => false).toArray 40)).alloc (.cells (chi 320 fun _ => false).toArray 52)).setCells w2.heap.size 0 cr).there (w2.heap.size + 1) 0 cv.toArray.size) := by rw [← hX]; exact K5'.out.there (by rw [chi_len]; simpa using LV.out)
  clear hX K4 K5 K5' F0 F1 hbX
  go_wp2_with (first
    | (with_reducible refine wpList_alloc_chi rfl 40 rfl 40 zeroS ?_)
    | (with_reducible refine wpList_alloc_chi rfl 52 rfl 320 zeroV ?_)
    | (with_reducible refine wpList_store_mid rfl 40 (.tmp 4) (.tmp 9) rfl w2.heap.size 0 cr.toArray (by simp [Act.eval, Act.put]) (by simp [Act.eval, Act.put]) T4.out (by rw [infoS]; simpa using LR.out.symm) (all_oneCell_toArray OR.out) ?_)
    | (with_reducible refine wpList_store_mid rfl 52 (.tmp 5) (.tmp 11) rfl (w2.heap.size + 1) 0 cv.toArray (by simp [Act.eval, Act.put]) (by simp [Act.eval, Act.put]) T5.out (by rw [infoV]; simpa using LV.out.symm) (all_oneCell_toArray OV.out) ?_))
  rw [← HX.out]
  clear HX T4 T5 OR OV
  generalize (X.setCells w2.heap.size 0 cr).setCells (w2.heap.size + 1) 0 cv = Y at *
  generalize w2.heap.size = b4 at *
  go_loopw [14] (fun i wr => ∃ k : Nat, k ≤ code.length ∧ i = .int .i64 k ∧ Hid (Cells wr w.heap.size (chi 40 fun _ => false)) ∧ Hid (Cells wr (w.heap.size + 1) (chi 40 fun j => decide (j < k) && deadB code j)) ∧ Hid (Cells wr b4 cr) ∧ Hid (Cells wr (b4 + 1) cv) ∧ Below w.heap.size w wr) (fun i _ => code.length - (intOf i).toNat)
  case atStart => exact ⟨0, Nat.zero_le _, rfl, E0.out, by show Cells _ _ _; rw [chi_congr (Q := fun _ => false) (fun j _ => by simp)]; exact E1.out, E4.out, E5.out, hbE⟩
  case round =>
    clear E0 E1 E4 E5 hbE hw2
    obtain ⟨k, hk, rfl, hc0, hc1, hc4, hc5, hb⟩ := hrel
    by_cases hlt : k < code.length
    · have hki : (k : Int) < (code.length : Int) := by omega
      have hk40 : (k : Int) < 40 := by omega
      obtain ⟨d0, d1, d2⟩ := (HR.out.on hb) k _ (ins_is hlt)
      have HDB : Hid (deadB code k = (rchB code k && (decide ((insF code k).1 = 3) && !(outF code k (lvB code) (insF code k).2.1.toNat)))) := rfl
      have HLI : Hid ((insF code k).1 = 3 → 0 ≤ (insF code k).2.1 ∧ (insF code k).2.1 < 8) := fun h => local_in HOK.out hlt (.inr h)
      generalize insF code k = ins at *
      obtain ⟨op, A, b⟩ := ins
      dsimp only at d0 d1 d2 HDB HLI
      simp only [Nat.zero_add] at d0 d1 d2
      obtain ⟨X0, hX0⟩ : ∃ X0, X0 = wr.alloc (.cells #[.int .i64 op, .int .i64 A, .int .i64 b] 36) := ⟨_, rfl⟩
      have hb0 : Below wr.heap.size wr X0 := by rw [hX0]; exact (Below.refl _ _).alloc (Nat.le_refl _) _
      have BX0 : Cells X0 wr.heap.size [.int .i64 op, .int .i64 A, .int .i64 b] := by rw [hX0]; exact Cells.new wr _ rfl _ _
      have G0 : Hid (Cells X0 w.heap.size (chi 40 fun _ => false)) := hc0.out.on hb0
      have G1 : Hid (Cells X0 (w.heap.size + 1) (chi 40 fun j => decide (j < k) && deadB code j)) := hc1.out.on hb0
      have G4 : Hid (Cells X0 b4 cr) := hc4.out.on hb0
      have G5 : Hid (Cells X0 (b4 + 1) cv) := hc5.out.on hb0
      have hw3 : Below w.heap.size w X0 := below_over hb hb0
      have hr4 := (hc4.out k _ (AR.out k (by omega))).1
      obtain ⟨a0, _⟩ := BX0.g0
      obtain ⟨a1, _⟩ := BX0.g1
      have r4 := (G4.out k _ (AR.out k (by omega))).1
      have HB0 : Hid (Below wr.heap.size wr X0) := hb0
      have HNO : Hid (deadB code k = false → Cells X0 (w.heap.size + 1) (chi 40 fun j => decide (j < k + 1) && deadB code j)) := fun hd => by
        rw [chi_congr (Q := fun j => decide (j < k) && deadB code j) (fun j _ => by
          rw [dead_step hd.symm j]
          by_cases e : j = k
          · subst e; simp
          · simp [e])]
        exact G1.out
      rw [hX0] at r4 a0
      have HX0 : Hid (X0 = wr.alloc (.cells #[.int .i64 op, .int .i64 A, .int .i64 b] 36)) := hX0
      have HZW : Hid (w.heap.size + 1 < wr.heap.size) := hc1.out.lt' (by decide)
      clear hX0 hc0 hc1 hc4 hc5 hb hb0 BX0 hr4
      cases hrb : rchB code k
      · rw [hrb] at r4
        have HD := HNO.out (by rw [HDB.out, hrb]; rfl)
        have HD' : Hid (Cells X0 (w.heap.size + 1) (chi 40 fun j => decide (j < k + 1) && deadB code j)) := HD
        clear HD HNO HDB hrb G1
        go_wp2
        rw [← HX0.out]
        go_roundw
        case rel => exact ⟨k + 1, by omega, by go_num, G0.out, HD'.out, G4.out, G5.out, hw3⟩
        case measure => simp [intOf]; omega
      · rw [hrb] at r4
        by_cases h3 : op = 3
        · subst h3
          obtain ⟨ha0, ha8⟩ := HLI.out rfl
          obtain ⟨a, rfl⟩ := Int.eq_ofNat_of_zero_le ha0
          have ha : a < 8 := by omega
          have HOUT : Hid ((!(outF code k L a)) = deadB code k) := by
            show _ = _
            rw [HDB.out, hrb, Int.toNat_natCast, outF_congr (B := lvB code) (fun j hj => HL.out j a hj ha)]
            simp
          have hx : ∀ u : World, (Instr.index 50 (.agg (chi 8 (outF code k L)).toArray) (.int .i64 (a : Int))).run Try.prog u = .ok (.bool (outF code k L a)) u := fun u => run_index_chi Try.underlying50 _ ha u
          have hcall := fun u => HCB.out k hlt u
          have HRW : Hid (Row X0 g 0 code) := HR.out.on hw3
          have HS : Hid (w.heap.size + 1 < X0.heap.size ∧ wr.heap.size < X0.heap.size) := ⟨G1.out.lt' (by decide), cell_lt a1⟩
          obtain ⟨s0, z0⟩ := G1.out k _ (chi_at _ (by omega))
          clear HDB HLI ha0 HNO hrb HB0 ha8 HCB
          generalize chi 8 (outF code k L) = co at *
          generalize outF code k L a = bo at *
          go_upto_region 7 with fail
          rw [← HX0.out]
          clear HX0 r4 a0 d0 d1 d2
          have HB7 : Hid (w.heap.size + 1 < wr.heap.size) := HZW.out
          generalize wr.heap.size = b7 at *
          have hD0 : Below X0.heap.size X0 X0.drew := (Below.refl _ _).drew
          refine wp_region_held_drew (S := fun y => Cells y (b4 + 1) cv ∧ y.cell? ⟨b7, 1, none⟩ = some (.int .i64 (a : Int))) (by kernel_rfl) ⟨G5.out.on hD0, (hD0.cell (p := ⟨b7, 1, none⟩) HS.out.2).trans a1⟩ (fun hHeld => ?_)
          generalize X0.drew = Q0 at hD0 hHeld ⊢
          refine wpAnyH_take (i := 0) (v := ?_) rfl (by kernel_rfl) (by kernel_rfl) (by kernel_rfl) (fun _ _ _ h => h) (Or.inl ⟨by rfl, ?_⟩) hHeld ?_
          rotate_left 1
          · intro w' hSw
            go_simp
            try with_reducible rfl
          simp only [Act.put]
          refine wpAnyH_take (i := 1) (v := ?_) rfl (by kernel_rfl) (by kernel_rfl) (by kernel_rfl) (fun _ _ _ h => h) (Or.inl ⟨by rfl, ?_⟩) hHeld ?_
          rotate_left 1
          · intro w' hSw
            go_simp
            try with_reducible rfl
          simp only [Act.put]
          refine wpAnyH_take (i := 2) (v := ?_) rfl (by kernel_rfl) (by kernel_rfl) (by kernel_rfl) (fun _ _ _ h => h) (Or.inl ⟨by rfl, ?_⟩) hHeld ?_
          rotate_left 1
          · intro w' hSw
            go_simp
            try with_reducible rfl
          simp only [Act.put]
          refine wpAnyH_take (i := 3) (v := .agg cv.toArray) rfl (by kernel_rfl) (by kernel_rfl) (by kernel_rfl) (fun _ _ _ h => h) (yieldsIf_load_mid rfl 52 (.tmp 5) rfl (b4 + 1) 0 (by simp [Act.eval]) cv _ (fun y hy => hy.1.range) Try.underlying52 rfl (by rw [infoV, LV.out])) hHeld ?_
          simp only [Act.put]
          refine wpAnyH_take (i := 5) (v := ?_) rfl (by kernel_rfl) (by kernel_rfl) (by kernel_rfl) (fun _ _ _ h => h) (Or.inl ⟨by rfl, ?_⟩) hHeld ?_
          rotate_left 1
          · intro w' hSw
            go_simp
            try with_reducible rfl
          simp only [Act.put]
          refine wpAnyH_take (i := 6) (v := ?_) rfl (by kernel_rfl) (by kernel_rfl) (by kernel_rfl) (fun _ _ _ h => h) (Or.inl ⟨by rfl, ?_⟩) hHeld ?_
          rotate_left 1
          · intro w' hSw
            have hc := hSw.2
            go_simp
            try with_reducible rfl
          simp only [Act.put]
          refine wpAnyH_ready (rs := [4]) (by kernel_rfl) (by simp) ?_
          refine AllReadyH.cons rfl (fun K hK => ?_) AllReadyH.nil
          go_simp
          refine (hcall Q0 (HRW.out.on hD0)).mono ?_
          rintro e Q1 ⟨rfl, hq1⟩
          have hR1 : Below X0.heap.size X0 Q1 := below_over hD0 hq1
          have I0 : Hid (Cells Q1 w.heap.size (chi 40 fun _ => false)) := G0.out.on hR1
          have I1 : Hid (Cells Q1 (w.heap.size + 1) (chi 40 fun j => decide (j < k) && deadB code j)) := G1.out.on hR1
          have I4 : Hid (Cells Q1 b4 cr) := G4.out.on hR1
          have I5 : Cells Q1 (b4 + 1) cv := G5.out.on hR1
          have hwQ : Below w.heap.size w Q1 := below_over hw3 hR1
          have i7 := (hR1.cell (p := ⟨b7, 1, none⟩) HS.out.2).trans a1
          obtain ⟨s1, z1⟩ := I1.out k _ (chi_at _ (by omega))
          dsimp only
          refine hK.out _ _ ⟨I5, i7⟩ (fun hHeld => ?_)
          clear hK K
          refine wpAnyH_take (i := 7) (v := ?_) rfl (by kernel_rfl) (by kernel_rfl) (by kernel_rfl) (fun _ _ _ h => h) (Or.inl ⟨by rfl, ?_⟩) hHeld ?_
          rotate_left 1
          · intro w' hSw
            go_simp
            try with_reducible rfl
          simp only [Act.put]
          refine wpAnyH_take (i := 8) (v := ?_) rfl (by kernel_rfl) (by kernel_rfl) (by kernel_rfl) (fun _ _ _ h => h) (Or.inl ⟨by rfl, ?_⟩) hHeld ?_
          rotate_left 1
          · intro w' hSw
            go_simp
            try with_reducible rfl
          simp only [Act.put]
          refine wpAnyH_take (i := 9) (v := ?_) rfl (by kernel_rfl) (by kernel_rfl) (by kernel_rfl) (fun _ _ _ h => h) (Or.inl ⟨by rfl, ?_⟩) hHeld ?_
          rotate_left 1
          · intro w' hSw
            go_simp
            try with_reducible rfl
          simp only [Act.put]
          have J0 : Hid (Cells (Q1.setCell ⟨w.heap.size + 1, k, none⟩ (.bool (!bo))) w.heap.size (chi 40 fun _ => false)) := I0.out.far _ _ (by simp)
          have J1 : Hid (Cells (Q1.setCell ⟨w.heap.size + 1, k, none⟩ (.bool (!bo))) (w.heap.size + 1) (chi 40 fun j => decide (j < k + 1) && deadB code j)) := by
            show Cells _ _ _
            have h := I1.out.set k (.bool (!bo))
            rw [chi_set] at h
            rw [chi_congr (fun j _ => dead_step HOUT.out j)]
            exact h
          have J4 : Hid (Cells (Q1.setCell ⟨w.heap.size + 1, k, none⟩ (.bool (!bo))) b4 cr) := I4.out.far _ _ (by show w.heap.size + 1 ≠ b4; omega)
          have J5 : Cells (Q1.setCell ⟨w.heap.size + 1, k, none⟩ (.bool (!bo))) (b4 + 1) cv := I5.far _ _ (by show w.heap.size + 1 ≠ b4 + 1; omega)
          have i8 : (Q1.setCell ⟨w.heap.size + 1, k, none⟩ (.bool (!bo))).cell? ⟨b7, 1, none⟩ = some (.int .i64 (a : Int)) := (World.cell?_setCell_other _ _ _ _ (fun e => by injection e with e; have := HB7.out; omega)).trans i7
          have hbF : Below w.heap.size w (Q1.setCell ⟨w.heap.size + 1, k, none⟩ (.bool (!bo))) := hwQ.setCell (by show w.heap.size ≤ w.heap.size + 1; omega) _
          refine wpAnyH_ready (rs := [10]) (by kernel_rfl) (by simp) ?_
          refine AllReadyH.cons rfl (fun K hK => ?_) AllReadyH.nil
          go_simp
          refine hK.out _ _ ⟨J5, i8⟩ (fun hHeld => ?_)
          clear hK K
          have JJ5 : Hid (Cells (Q1.setCell ⟨w.heap.size + 1, k, none⟩ (.bool (!bo))) (b4 + 1) cv) := J5
          clear J5 i8 I0 I1 I4 I5 hwQ i7 s1 z1 hR1 hq1
          generalize Q1.setCell ⟨w.heap.size + 1, k, none⟩ (.bool (!bo)) = X9 at *
          refine wpAnyH_done (by kernel_rfl) ?_ _
          clear hHeld hD0
          go_wp2
          go_roundw
          case rel => exact ⟨k + 1, by omega, by go_num, J0.out, J1.out, J4.out, JJ5.out, hbF⟩
          case measure => simp [intOf]; omega
        · have h3b : (op == 3) = false := by simp [h3]
          have HD := HNO.out (by rw [HDB.out]; simp [h3])
          have HD' : Hid (Cells X0 (w.heap.size + 1) (chi 40 fun j => decide (j < k + 1) && deadB code j)) := HD
          clear HD HNO HDB hrb G1 h3
          go_wp2
          rw [← HX0.out]
          go_roundw
          case rel => exact ⟨k + 1, by omega, by go_num, G0.out, HD'.out, G4.out, G5.out, hw3⟩
          case measure => simp [intOf]; omega
    · obtain rfl : k = code.length := by omega
      have HC1 : Hid (Cells wr (w.heap.size + 1) (chi 40 (deadB code))) := by
        show Cells _ _ _
        rw [chi_congr (Q := fun j => decide (j < code.length) && deadB code j) (fun j _ => by
          cases hp : deadB code j
          · simp
          · have := deadB_lt hl0 hp; simp; omega)]
        exact hc1.out
      clear hc1 hc4 hc5
      have HCL : Hid ((chi 40 (deadB code)).length = 40) := chi_len _ _
      have HCO : Hid (∀ v ∈ chi 40 (deadB code), v.oneCell' = true) := chi_one _ _
      have HC2 : Hid (Cells (wr.setCells w.heap.size 0 (chi 40 (deadB code))) w.heap.size (chi 40 (deadB code))) := hc0.out.put (by rw [chi_len, chi_len])
      have hb2 : Below w.heap.size w (wr.setCells w.heap.size 0 (chi 40 (deadB code))) := below_setCells (Nat.le_refl _) _ _ hb
      clear hb
      generalize hcs : chi 40 (deadB code) = cs at *
      have HCS : Hid (chi 40 (deadB code) = cs) := hcs
      clear hcs
      go_wp2_with (first
        | (with_reducible refine wpList_load_mid rfl 40 (.tmp 3) rfl (w.heap.size + 1) 0 (by simp [Act.eval, Act.put]) cs _ HC1.out.range Try.underlying40 rfl (by rw [infoS, HCL.out]) ?_)
        | (with_reducible refine wpList_store_mid rfl 40 (.tmp 2) (.tmp 38) rfl w.heap.size 0 cs.toArray (by simp [Act.eval, Act.put]) (by simp [Act.eval, Act.put]) (hc0.out.there (by rw [chi_len]; simpa using HCL.out)) (by rw [infoS]; simpa using HCL.out.symm) (all_oneCell_toArray HCO.out) ?_))
      (try simp only [Exit.inBlock, Exit.then])
      refine bodyPost_ret (ret_cell rfl rfl HC2.out.range Try.underlying40 rfl (by rw [infoS, HCL.out])) rfl ?_
      exact ⟨by rw [HCS.out], hb2⟩
set_option maxRecDepth 100000 in
set_option maxHeartbeats 1000000 in
theorem implDeadStores (g cap : Nat) (l : List Tx.Ins) (hl : l.length ≤ 1048576) (w : World) (hr : Row w g 0 l) :
    Calls Try.prog 8 #[.slice (some ⟨g, 0, none⟩) l.length cap] w fun e w' => ∃ x, e = .returned x ∧ GInt w.heap.size w' x (dedA l) ∧ Below w.heap.size w w' := by
  have HR : Hid (Row w g 0 l) := hr
  clear hr
  go_enter Try.func8, Try.ntmps8
  go_wp2_with fail
  refine (implCodeOk g cap l hl w HR.out).mono ?_
  rintro e w1 ⟨rfl, hb1⟩
  cases hok : Lay.codeOk l
  · have HE : Hid (dedA l = []) := by show _ = _; simp [dedA, hok]
    clear hok
    go_wp2
    go_ret
    exact ⟨_, rfl, by rw [HE.out]; exact ((grow_start w1).base' hb1.size).gint, hb1.alloc hb1.size _⟩
  · have HE : Hid (dedA l = risL (deadB l) 40) := by show _ = _; simp [dedA, hok]
    go_wp2_with fail
    refine (deadStoresIn_at g cap l hok w1 (HR.out.on hb1)).mono ?_
    rintro e w2 ⟨rfl, hb2⟩
    have hw2 : Below w.heap.size w w2 := below_over hb1 hb2
    clear hb1 hb2
    go_wp2_with fail
    refine (rising_at (deadB l) w2).mono ?_
    rintro e w3 ⟨v, rfl, hg, hb3⟩
    have hw3 : Below w.heap.size w w3 := below_over hw2 hb3
    have HG : Hid (Grow w.heap.size w3 v (risL (deadB l) 40)) := hg.base' hw2.size
    clear hg hb3 hok
    go_wp2
    go_ret
    exact ⟨_, rfl, by rw [HE.out]; exact HG.out.gint, hw3⟩
set_option maxRecDepth 100000 in
set_option maxHeartbeats 1000000 in
theorem implUnstored (g cap : Nat) (l : List Tx.Ins) (hl : l.length ≤ 1048576) (w : World) (hr : Row w g 0 l) :
    Calls Try.prog 15 #[.slice (some ⟨g, 0, none⟩) l.length cap] w fun e w' => ∃ x, e = .returned x ∧ Got w.heap.size w' x (unsA l) ∧ Below w.heap.size w w' := by
  have HR : Hid (Row w g 0 l) := hr
  clear hr
  go_enter Try.func15, Try.ntmps15
  go_wp2_with fail
  refine (implCodeOk g cap l hl w HR.out).mono ?_
  rintro e w1 ⟨rfl, hb1⟩
  cases hok : Lay.codeOk l
  · have HE : Hid (unsA l = []) := by show _ = _; simp [unsA, hok]
    clear hok
    go_wp2
    go_ret
    exact ⟨_, rfl, by rw [HE.out]; exact got_nil w1 _ hb1.size _, hb1.alloc hb1.size _⟩
  · have HE : Hid (unsA l = popsF l (risL (deadB l) 40)) := by show _ = _; simp [unsA, hok]
    have HOK : Hid (Lay.codeOk l = true) := hok
    have hl40 := (Lay.ok_len hok).2
    have hl0 := (Lay.ok_len hok).1
    clear hok
    go_wp2_with fail
    refine (cloneC g cap l (by omega) w1 (HR.out.on hb1)).mono ?_
    rintro e w2 ⟨v, rfl, hv, hb2⟩
    obtain ⟨gv, cv, rfl, hcv⟩ := hv.form2
    have hw2 : Below w.heap.size w w2 := below_over hb1 hb2
    obtain ⟨g', c', he, hg1, hg2, hgr, hgm⟩ := (hv.base hb1.size).got
    obtain ⟨rfl, rfl⟩ : gv = g' ∧ cv = c' := by simpa using he
    have HGR : Hid (Row w2 gv 0 l) := hgr
    have HGM : Hid (Room w2 gv (l.length * 3)) := hgm
    clear hb1 hb2 hv hcv he hgr hgm
    go_wp2_with fail
    refine (deadStoresIn_at g cap l HOK.out w2 (HR.out.on hw2)).mono ?_
    rintro e w3 ⟨rfl, hb3⟩
    have hw3 : Below w.heap.size w w3 := below_over hw2 hb3
    have HR3 : Hid (Row w3 gv 0 l) := HGR.out.on hb3
    have HM3 : Hid (Room w3 gv (l.length * 3)) := HGM.out.on hb3
    have hg3 : gv < w3.heap.size := Nat.lt_of_lt_of_le hg2 hb3.size
    clear hb3 HGR HGM hw2 hg2
    go_wp2_with fail
    refine (rising_at (deadB l) w3).mono ?_
    rintro e w4 ⟨v, rfl, hg, hb4⟩
    obtain ⟨gp, cp, hv4, hgp1, hgp2, hir, _⟩ := hg.gint
    subst hv4
    have hw4 : Below w.heap.size w w4 := below_over hw3 hb4
    have HR4 : Hid (Row w4 gv 0 l) := HR3.out.on hb4
    have HM4 : Hid (Room w4 gv (l.length * 3)) := HM3.out.on hb4
    have hg4 : gv < w4.heap.size := Nat.lt_of_lt_of_le hg3 hb4.size
    have HIR : Hid (IRow w4 gp 0 (risL (deadB l) 40)) := hir
    have hne : gv ≠ gp := by omega
    have hd41 : (risL (deadB l) 40).length ≤ 40 := risL_len _ _
    have HDM : Hid (∀ x ∈ risL (deadB l) 40, ∃ j : Nat, j < l.length ∧ x = (j : Int)) := fun x hx => by
      obtain ⟨j, _, hj, e⟩ := risL_mem.1 hx
      exact ⟨j, deadB_lt hl0 hj, e⟩
    clear hg hb4 HR3 HM3 hw3 hir hg3 hgp1
    generalize risL (deadB l) 40 = d at *
    go_wp2
    go_loopw [16] (fun i wr => ∃ k : Nat, k ≤ d.length ∧ i = .int .i64 k ∧ Hid (Row wr gv 0 (popsF l (d.take k))) ∧ Hid (Room wr gv (l.length * 3)) ∧ gv < wr.heap.size ∧ Hid (IRow wr gp 0 d) ∧ Below w.heap.size w wr) (fun i _ => d.length - (intOf i).toNat)
    case atStart => exact ⟨0, Nat.zero_le _, rfl, by show Row _ _ _ _; simpa [popsF] using HR4.out, HM4.out, hg4, HIR.out, hw4⟩
    case round =>
      clear HR4 HM4 hg4 HIR hw4
      obtain ⟨k, hk, rfl, hrw, hrm, hgw, hir, hb⟩ := hrel
      by_cases hlt : k < d.length
      · have hki : (k : Int) < (d.length : Int) := by omega
        have c0 := hir.out k _ (List.getElem?_eq_getElem hlt)
        rw [Nat.zero_add] at c0
        obtain ⟨j, hj, hxj⟩ := HDM.out _ (List.getElem_mem hlt)
        rw [hxj] at c0
        have hji : (j : Int) < (l.length : Int) := by omega
        have HST : Hid (popsF l (d.take (k + 1)) = (popsF l (d.take k)).set j (9, 0, 0)) := by show _ = _; rw [pops_succ l hlt, hxj, Int.toNat_natCast]
        obtain ⟨⟨x0, s0⟩, z0⟩ := hrm.out (j * 3) (by omega)
        obtain ⟨⟨x1, s1⟩, z1⟩ := hrm.out (j * 3 + 1) (by omega)
        obtain ⟨⟨x2, s2⟩, z2⟩ := hrm.out (j * 3 + 2) (by omega)
        obtain ⟨q1, q2, q3⟩ := set_oneD (k := j) (by rw [pops_len]) hrm.out hrw.out hb hg1 (9, 0, 0)
        have Q1 : Hid (Row (((wr.setCell ⟨gv, j * 3, none⟩ (.int .i64 9)).setCell ⟨gv, j * 3 + 1, none⟩ (.int .i64 0)).setCell ⟨gv, j * 3 + 2, none⟩ (.int .i64 0)) gv 0 (popsF l (d.take (k + 1)))) := by show Row _ _ _ _; rw [HST.out]; exact q1
        have Q2 : Hid (Room (((wr.setCell ⟨gv, j * 3, none⟩ (.int .i64 9)).setCell ⟨gv, j * 3 + 1, none⟩ (.int .i64 0)).setCell ⟨gv, j * 3 + 2, none⟩ (.int .i64 0)) gv (l.length * 3)) := q2
        have Q3 : Below w.heap.size w (((wr.setCell ⟨gv, j * 3, none⟩ (.int .i64 9)).setCell ⟨gv, j * 3 + 1, none⟩ (.int .i64 0)).setCell ⟨gv, j * 3 + 2, none⟩ (.int .i64 0)) := q3
        have Q4 : Hid (IRow (((wr.setCell ⟨gv, j * 3, none⟩ (.int .i64 9)).setCell ⟨gv, j * 3 + 1, none⟩ (.int .i64 0)).setCell ⟨gv, j * 3 + 2, none⟩ (.int .i64 0)) gp 0 d) := irow_far (irow_far (irow_far hir.out _ _ hne) _ _ hne) _ _ hne
        clear q1 q2 q3 hrw hrm hir hb hxj HST
        go_wp2
        go_roundw
        case rel => exact ⟨k + 1, by omega, by go_num, Q1.out, Q2.out, by simpa using hgw, Q4.out, Q3⟩
        case measure => simp [intOf]; omega
      · obtain rfl : k = d.length := by omega
        have HG : Hid (Got w.heap.size wr (.slice (some ⟨gv, 0, none⟩) l.length cv) (unsA l)) := by
          show Got _ _ _ _
          rw [HE.out]
          rw [List.take_length] at hrw
          exact ⟨gv, cv, by rw [pops_len], hg1, hgw, hrw.out, by rw [pops_len]; exact hrm.out⟩
        clear hrw hrm hir
        go_wp2
        go_ret
        exact ⟨_, rfl, HG.out, hb⟩
end Pg
end Go.Proofs.Ythabenjodhjgiab

/- Contracts: both sides' LiveIn. -/
import Derived.Test.YtajjoanfojaeiaaLv4
namespace Go.Proofs.Ytajjoanfojaeiaa
namespace Pg
open Go.ChangeShapes Go.WideShapes Go.ChangeAt Go.RowKit St

noncomputable def livL (l : List Tx.Ins) : List Int := (List.range l.length).map fun k => ((bn (lvB l k) 8 : Nat) : Int)
noncomputable def livA (l : List Tx.Ins) : List Int := if Lay.codeOk l then livL l else []
theorem livL_len (l : List Tx.Ins) : (livL l).length = l.length := by simp [livL]
theorem livL_at {l : List Tx.Ins} {k : Nat} (h : k < l.length) : (livL l)[k]? = some ((bn (lvB l k) 8 : Nat) : Int) := by simp [livL, h]
theorem livA_len (l : List Tx.Ins) : (livA l).length ≤ 41 := by
  unfold livA
  split
  · rename_i h
    have := (Lay.ok_len h).2
    rw [livL_len]; omega
  · simp

set_option maxRecDepth 100000 in
set_option maxHeartbeats 4000000 in
theorem implLiveIn (g cap : Nat) (l : List Tx.Ins) (hl : l.length ≤ 1048576) (w : World) (hr : Row w g 0 l) :
    Calls Try.prog 20 #[.slice (some ⟨g, 0, none⟩) l.length cap] w fun e w' => ∃ x, e = .returned x ∧ GInt w.heap.size w' x (livA l) ∧ Below w.heap.size w w' := by
  obtain ⟨i0, hif, hz0, hz1, hz2⟩ := info_parts infoN
  have HR : Hid (Row w g 0 l) := hr
  clear hr
  go_enter Try.func20, Try.ntmps20
  go_wp2_with fail
  refine (implCodeOk g cap l hl w HR.out).mono ?_
  rintro e w1 ⟨rfl, hb1⟩
  cases hok : Lay.codeOk l
  · have HE : Hid (livA l = []) := by show _ = _; simp [livA, hok]
    clear hok
    go_wp2
    go_ret
    exact ⟨_, rfl, by rw [HE.out]; exact ((grow_start w1).base' hb1.size).gint, hb1.alloc hb1.size _⟩
  · have HE : Hid (livA l = livL l) := by show _ = _; simp [livA, hok]
    have hl40 := (Lay.ok_len hok).2
    go_wp2_with fail
    refine (liveIn_at g cap l hok w1 (HR.out.on hb1)).mono ?_
    rintro e w2 ⟨L, rfl, hL, hb2⟩
    have hw2 : Below w.heap.size w w2 := below_over hb1 hb2
    have HLL : Hid (∀ k, k < l.length → bn (L k) 8 = bn (lvB l k) 8) := fun k hk => bn_eq.2 fun v hv => hL k v hk hv
    clear hb1 hb2 hL hok
    have C3 : Hid (Cells (w2.alloc (.cells (chi 320 fun _ => false).toArray 53)) w2.heap.size (chi 320 fun _ => false)) := Cells.new w2 _ rfl _ _
    obtain ⟨Y, hY⟩ : ∃ Y, Y = (w2.alloc (.cells (chi 320 fun _ => false).toArray 53)).setCells w2.heap.size 0 (chi 320 (flatP L)) := ⟨_, rfl⟩
    have CY : Hid (Cells Y w2.heap.size (chi 320 (flatP L))) := by show Cells _ _ _; rw [hY]; exact C3.out.put (by rw [chi_len, chi_len])
    have hwY : Below w.heap.size w Y := by rw [hY]; exact below_setCells hw2.size _ _ (hw2.alloc hw2.size _)
    have HY : Hid (Y = (w2.alloc (.cells (chi 320 fun _ => false).toArray 53)).setCells w2.heap.size 0 (chi 320 (flatP L))) := hY
    have CT : Hid ((w2.alloc (.cells (chi 320 fun _ => false).toArray 53)).there w2.heap.size 0 320) := C3.out.there (by rw [chi_len])
    have HML : Hid ((chi 320 (flatP L)).length = 320) := chi_len _ _
    have HMO : Hid (∀ v ∈ chi 320 (flatP L), v.oneCell' = true) := chi_one _ _
    clear hY C3
    generalize hcm : chi 320 (flatP L) = cm at *
    have HCM : Hid (chi 320 (flatP L) = cm) := hcm
    clear hcm
    have hz2' : w.heap.size ≤ w2.heap.size := hw2.size
    go_upto_region 4 with (first
      | (with_reducible refine wpList_alloc_chi rfl 53 rfl 320 zeroV ?_)
      | (with_reducible refine wpList_store_mid rfl 53 (.tmp 3) (.tmp 11) rfl w2.heap.size 0 cm.toArray (by simp [Act.eval, Act.put]) (by simp [Act.eval, Act.put]) (by rw [show cm.toArray.size = 320 by simpa using HML.out]; exact CT.out) (by rw [infoV]; simpa using HML.out.symm) (all_oneCell_toArray HMO.out) ?_))
    rw [← HY.out]
    rw [← HCM.out] at CY
    clear HY CT HML HMO HCM hw2
    go_wp2_with (at_make; refine wpList_make_full _ rfl _ _ 24 rfl Y.heap.size 2 i0 (.int .i64 0) 1 Try.underlying24 hif hz0 hz1 .i64 .i64 _ _ l.length rfl rfl rfl rfl (by rw [hz2]; omega) (by unfold maxLen; omega) (Nat.le_refl _) ?_; intro w3 hown3 hgrow3)
    have hroom := room_own hown3 (Nat.le_refl _)
    rw [Nat.mul_one] at hroom
    have hsz3 : Y.heap.size < w3.heap.size := made_lt hown3
    have hbY3 : Below Y.heap.size Y w3 := (Below.refl _ _).grown hgrow3 (Nat.le_refl _) (fun _ h => by simp at h)
    have hw3 : Below w.heap.size w w3 := below_over hwY hbY3
    have C33 : Hid (Cells w3 w2.heap.size (chi 320 (flatP L))) := CY.out.on hbY3
    have HYZ : Hid (w2.heap.size < Y.heap.size ∧ w.heap.size ≤ Y.heap.size) := ⟨CY.out.lt' (by decide), hwY.size⟩
    clear hown3 hgrow3 CY hbY3 hwY
    go_loopw [17] (fun i wr => ∃ k : Nat, k ≤ l.length ∧ i = .int .i64 k ∧ Hid (Room wr Y.heap.size l.length) ∧ Hid (IRow wr Y.heap.size 0 ((livL l).take k)) ∧ Hid (Cells wr w2.heap.size (chi 320 (flatP L))) ∧ Y.heap.size < wr.heap.size ∧ Below w.heap.size w wr) (fun i _ => l.length - (intOf i).toNat)
    case atStart => exact ⟨0, Nat.zero_le _, rfl, hroom, fun j x h => by simp at h, C33.out, hsz3, hw3⟩
    case round =>
      clear hroom C33 hsz3 hw3
      obtain ⟨k, hk, rfl, hrm, hrw, hc3, hsz, hb⟩ := hrel
      by_cases hlt : k < l.length
      · have hki : (k : Int) < (l.length : Int) := by omega
        have hk40 : (k : Int) < 40 := by omega
        have CR := flat_range hc3.out (show k < 40 by omega)
        go_wp2_with (with_reducible refine wpList_load_mid rfl 51 (.tmp 23) rfl w2.heap.size (k * 8) (by simp [Act.eval]) (chi 8 (L k)) _ CR Try.underlying51 rfl (by rw [infoL, chi_len]) ?_)
        refine (bits_at (L k) wr).mono ?_
        rintro e w4 ⟨rfl, hb4⟩
        have hw4 : Below w.heap.size w w4 := below_over hb hb4
        have hsz4 : Y.heap.size < w4.heap.size := Nat.lt_of_lt_of_le hsz hb4.size
        have C4 : Hid (Cells w4 w2.heap.size (chi 320 (flatP L))) := hc3.out.on hb4
        have RM : Hid (Room w4 Y.heap.size l.length) := hrm.out.on hb4
        have RW : Hid (IRow w4 Y.heap.size 0 ((livL l).take k)) := hrw.out.on hb4
        obtain ⟨⟨x0, d0⟩, f0⟩ := RM.out k hlt
        have hlk : k < (livL l).length := by rw [livL_len]; exact hlt
        have HN := irow_next hlk (by rw [livL_len]; exact RM.out) RW.out
        have hval : (livL l)[k] = ((bn (L k) 8 : Nat) : Int) := by
          have := livL_at hlt
          rw [List.getElem?_eq_getElem hlk] at this
          injection this with this
          rw [this, HLL.out k hlt]
        rw [hval] at HN
        have HNX : Hid (IRow (w4.setCell ⟨Y.heap.size, k, none⟩ (.int .i64 ((bn (L k) 8 : Nat) : Int))) Y.heap.size 0 ((livL l).take (k + 1))) := HN
        have C5 : Hid (Cells (w4.setCell ⟨Y.heap.size, k, none⟩ (.int .i64 ((bn (L k) 8 : Nat) : Int))) w2.heap.size (chi 320 (flatP L))) := C4.out.far _ _ (by have := HYZ.out; simp; omega)
        have hw5 : Below w.heap.size w (w4.setCell ⟨Y.heap.size, k, none⟩ (.int .i64 ((bn (L k) 8 : Nat) : Int))) := hw4.setCell (p := ⟨Y.heap.size, k, none⟩) HYZ.out.2 _
        clear HN hval hlk RW C4 hb4 hrm hrw hc3 hb CR hw4 hsz
        generalize ((bn (L k) 8 : Nat) : Int) = bv at *
        go_wp2
        go_roundw
        case rel => exact ⟨k + 1, by omega, by go_num, RM.out.set _ _, HNX.out, C5.out, by simpa using hsz4, hw5⟩
        case measure => simp [intOf]; omega
      · have hki : ¬ (k : Int) < (l.length : Int) := by omega
        have HG : Hid (GInt w.heap.size wr (.slice (some ⟨Y.heap.size, 0, none⟩) l.length l.length) (livL l)) := by
          refine ⟨Y.heap.size, l.length, by rw [livL_len], HYZ.out.2, hsz, ?_, by rw [livL_len]; exact hrm.out⟩
          have h := hrw.out
          rw [List.take_of_length_le (by rw [livL_len]; omega)] at h
          exact h
        clear hrm hrw hc3
        go_wp2
        go_ret
        exact ⟨_, rfl, by rw [HE.out]; exact HG.out, hb⟩
end Pg
end Go.Proofs.Ytajjoanfojaeiaa

/- Contracts: the program's Loaded. -/
import Derived.Test.YthabenjodhjgiaaKm7
import Derived.Test.YthabenjodhjgiaaFo4
namespace Go.Proofs.Ythabenjodhjgiaa
namespace Pg
open Go.ChangeShapes Go.WideShapes Go.ChangeAt Go.RowKit St Wd

/-- A step, its load worked out where its local is known. -/
noncomputable def ldI (code : List Tx.Ins) (i : Nat) : Tx.Ins := if (insF code i).1 = 2 ∧ wdF code i (insF code i).2.1.toNat ≠ UnK then (1, wdF code i (insF code i).2.1.toNat, 0) else insF code i
noncomputable def partL (code : List Tx.Ins) (k : Nat) : List Tx.Ins := (List.range code.length).map fun i => if i < k then ldI code i else insF code i
theorem partL_len (code : List Tx.Ins) (k : Nat) : (partL code k).length = code.length := by simp [partL]
theorem partL_at (code : List Tx.Ins) (k : Nat) {i : Nat} (hi : i < code.length) : (partL code k)[i]? = some (if i < k then ldI code i else insF code i) := by simp [partL, hi]
theorem partL_zero (code : List Tx.Ins) : partL code 0 = code := by
  apply List.ext_getElem?
  intro i
  by_cases hi : i < code.length
  · rw [partL_at _ _ hi, ins_is hi]; simp
  · rw [List.getElem?_eq_none (by rw [partL_len]; omega), List.getElem?_eq_none (by omega)]
theorem partL_step {code : List Tx.Ins} {k : Nat} (hk : k < code.length) : (partL code k).set k (ldI code k) = partL code (k + 1) := by
  apply List.ext_getElem?
  intro i
  rw [List.getElem?_set]
  by_cases hi : i < code.length
  · rw [partL_at _ _ hi, partL_at _ _ hi, partL_len]
    by_cases e : k = i
    · subst e; simp [hi]
    · rw [if_neg e]
      have : (i < k + 1) ↔ (i < k) := by omega
      simp only [this]
  · have e : ¬ k = i := by omega
    rw [if_neg e, List.getElem?_eq_none (by rw [partL_len]; omega), List.getElem?_eq_none (by rw [partL_len]; omega)]
theorem partL_stay {code : List Tx.Ins} {k : Nat} (hk : k < code.length) (h : ldI code k = insF code k) : partL code (k + 1) = partL code k := by
  unfold partL
  refine List.map_congr_left fun i _ => ?_
  by_cases e : i = k
  · subst e; simp [h]
  · have : (i < k + 1) ↔ (i < k) := by omega
    simp only [this]
noncomputable def loadF (code : List Tx.Ins) : List Tx.Ins := partL code code.length
noncomputable def ldA (l : List Tx.Ins) : List Tx.Ins := if Lay.codeOk l then loadF l else []
theorem ldA_len (l : List Tx.Ins) : (ldA l).length ≤ 41 := by
  unfold ldA
  split
  · rename_i h
    have := (Lay.ok_len h).2
    unfold loadF
    rw [partL_len]; omega
  · simp
set_option maxRecDepth 100000 in
set_option maxHeartbeats 4000000 in
theorem implLoadedX (g cap : Nat) (l : List Tx.Ins) (hl : l.length ≤ 1048576) (w : World) (hr : Row w g 0 l) :
    Calls Try.prog 19 #[.slice (some ⟨g, 0, none⟩) l.length cap] w fun e w' => ∃ x, e = .returned x ∧ (Got w.heap.size w' x (ldA l) ∧ (Lay.codeOk l = true → LeastK l (knF l))) ∧ Below w.heap.size w w' := by
  have HR : Hid (Row w g 0 l) := hr
  clear hr
  go_enter Try.func19, Try.ntmps19
  go_wp2_with fail
  refine (implCodeOk g cap l hl w HR.out).mono ?_
  rintro e w1 ⟨rfl, hb1⟩
  cases hok : Lay.codeOk l
  · have HE : Hid (ldA l = []) := by show _ = _; simp [ldA, hok]
    have HKO : Hid (Lay.codeOk l = false) := hok
    clear hok
    go_wp2
    go_ret
    exact ⟨_, rfl, ⟨by rw [HE.out]; exact got_nil w1 _ hb1.size _, fun h => by rw [HKO.out] at h; simp at h⟩, hb1.alloc hb1.size _⟩
  · have HE : Hid (ldA l = partL l l.length) := by show _ = _; simp [ldA, hok, loadF]
    have hl40 := (Lay.ok_len hok).2
    have HOK : Hid (Lay.codeOk l = true) := hok
    have lg : g < w.heap.size := cell_lt (HR.out 0 _ (ins_is (Lay.ok_len hok).1)).1
    clear hok
    go_wp2_with fail
    refine (knownIn_at g cap l HOK.out w1 (HR.out.on hb1)).mono ?_
    rintro e w2 ⟨a, K, rfl, hka, hle, hwa, hb2⟩
    have hw2 : Below w.heap.size w w2 := below_over hb1 hb2
    have HWD : Hid (∀ i s, i < l.length → s < 8 → wdF l i s = (K i s).getD UnK) := fun i s hi hs => wd_is hle hi hs
    have HKA : Hid (KM w2 a K) := hka
    have HKN : Hid (LeastK l (knF l)) := kn_least hle
    clear hb1 hb2 hle
    go_wp2_with fail
    refine (cloneC g cap l (by omega) w2 (HR.out.on hw2)).mono ?_
    rintro e w3 ⟨v, rfl, hv, hb3⟩
    have hw3 : Below w.heap.size w w3 := below_over hw2 hb3
    have hal : a < w2.heap.size := hka.lt
    obtain ⟨gv, cv, rfl, hg1, hg2, hgr, hgm⟩ := hv.got
    have HKA3 : Hid (KM w3 a K) := HKA.out.on hb3
    have hgv : a < gv := by omega
    have hgvw : w.heap.size ≤ gv := Nat.le_trans hw2.size hg1
    have HGR : Hid (Row w3 gv 0 (partL l 0)) := by show Row _ _ _ _; rw [partL_zero]; exact hgr
    have HGM : Hid (Room w3 gv (l.length * 3)) := hgm
    clear hv hb3 HKA hka hgr hgm hw2
    go_wp2
    go_loopw [18] (fun i wr => ∃ k : Nat, k ≤ l.length ∧ i = .int .i64 (k : Int) ∧ Hid (KM wr a K) ∧ Hid (Row wr gv 0 (partL l k)) ∧ Hid (Room wr gv (l.length * 3)) ∧ gv < wr.heap.size ∧ Below w.heap.size w wr) (fun i _ => l.length - (intOf i).toNat)
    case atStart => exact ⟨0, Nat.zero_le _, rfl, HKA3.out, HGR.out, HGM.out, hg2, hw3⟩
    case round =>
      clear HKA3 HGR HGM hg2 hw3
      obtain ⟨k, hk, rfl, hK, hRw, hM, hgs, hb⟩ := hrel
      by_cases hlt : k < l.length
      · have hki : (k : Int) < (l.length : Int) := by omega
        obtain ⟨d0, d1, d2⟩ := (HR.out.below hb lg) k _ (ins_is hlt)
        simp only [Nat.zero_add] at d0 d1 d2
        have HLI : Hid (ldI l k = if (insF l k).1 = 2 ∧ wdF l k (insF l k).2.1.toNat ≠ UnK then (1, wdF l k (insF l k).2.1.toNat, 0) else insF l k) := rfl
        have HA : Hid ((insF l k).1 = 2 → 0 ≤ (insF l k).2.1 ∧ (insF l k).2.1 < 8) := fun h => store_in HOK.out hlt (.inr h)
        have HST : Hid (ldI l k = insF l k → partL l (k + 1) = partL l k) := partL_stay hlt
        have HSP : Hid ((partL l k).set k (ldI l k) = partL l (k + 1)) := partL_step hlt
        generalize insF l k = ins at *
        obtain ⟨op, A, B⟩ := ins
        dsimp only at d0 d1 d2 HLI HA
        obtain ⟨W, hW⟩ : ∃ W, W = wr.alloc (.cells #[.int .i64 op, .int .i64 A, .int .i64 B] 43) := ⟨_, rfl⟩
        have hbW : Below wr.heap.size wr W := by rw [hW]; exact (Below.refl _ _).alloc (Nat.le_refl _) _
        have HKW : Hid (KM W a K) := hK.out.on hbW
        have HRW : Hid (Row W gv 0 (partL l k)) := hRw.out.on hbW
        have HMW : Hid (Room W gv (l.length * 3)) := hM.out.on hbW
        have hgW : gv < W.heap.size := Nat.lt_of_lt_of_le hgs hbW.size
        have hbwW : Below w.heap.size w W := below_over hb hbW
        have HW : Hid (W = wr.alloc (.cells #[.int .i64 op, .int .i64 A, .int .i64 B] 43)) := hW
        have CW : Cells W wr.heap.size [.int .i64 op, .int .i64 A, .int .i64 B] := by rw [hW]; exact Cells.new wr _ rfl _ _
        obtain ⟨e0, _⟩ := CW 0 _ rfl
        obtain ⟨e1, _⟩ := CW 1 _ rfl
        clear hW hbW hK hRw hM CW
        go_upto_region 8 with fail
        rw [← HW.out]
        clear HW d0 d1 d2 hb hgs
        by_cases h2 : op = 2
        · subst h2
          obtain ⟨An, rfl⟩ : ∃ An : Nat, A = (An : Int) := ⟨A.toNat, by have := HA.out rfl; omega⟩
          have hA8 : An < 8 := by have := HA.out rfl; omega
          have hwd := HWD.out k An hlt hA8
          go_wp2_with fail
          refine (wordAt_at a K k An (by omega) hA8 W HKW.out).mono ?_
          rintro e w4 ⟨rfl, hb4⟩
          rw [← hwd]
          have HK4 : Hid (KM w4 a K) := HKW.out.on hb4
          have HR4 : Hid (Row w4 gv 0 (partL l k)) := HRW.out.on hb4
          have HM4 : Hid (Room w4 gv (l.length * 3)) := HMW.out.on hb4
          have hg4 : gv < w4.heap.size := Nat.lt_of_lt_of_le hgW hb4.size
          have hw4 : Below w.heap.size w w4 := below_over hbwW hb4
          clear HKW HRW HMW hgW hbwW hb4 e0 e1 hwd
          by_cases hu : wdF l k An = UnK
          · have HP : Hid (partL l (k + 1) = partL l k) := HST.out (by rw [HLI.out]; simp [hu])
            have HR5 : Hid (Row w4 gv 0 (partL l (k + 1))) := by show Row _ _ _ _; rw [HP.out]; exact HR4.out
            have hub : (wdF l k An != 1099511627776) = false := by simp [hu]
            clear HLI HST HSP HP hu HR4
            go_wp2
            go_roundw
            case rel => exact ⟨k + 1, by omega, by go_num, HK4.out, HR5.out, HM4.out, hg4, hw4⟩
            case measure => simp [intOf]; omega
          · have HL2 : Hid (ldI l k = (1, wdF l k An, 0)) := by show _ = _; rw [HLI.out]; simp [hu]
            have hub : (wdF l k An != 1099511627776) = true := by simp [hu]
            obtain ⟨⟨x0, s0⟩, z0⟩ := HM4.out (k * 3) (by omega)
            obtain ⟨⟨x1, s1⟩, z1⟩ := HM4.out (k * 3 + 1) (by omega)
            obtain ⟨⟨x2, s2⟩, z2⟩ := HM4.out (k * 3 + 2) (by omega)
            obtain ⟨q1, q2, q3⟩ := set_one (k := k) (partL_len l k) HM4.out HR4.out hw4 hgvw (1, wdF l k An, 0)
            have Q1 : Hid (Row (((w4.setCell ⟨gv, k * 3, none⟩ (.int .i64 1)).setCell ⟨gv, k * 3 + 1, none⟩ (.int .i64 (wdF l k An))).setCell ⟨gv, k * 3 + 2, none⟩ (.int .i64 0)) gv 0 (partL l (k + 1))) := by
              show Row _ _ _ _
              rw [← HSP.out, HL2.out]
              exact q1
            have Q2 : Hid (Room (((w4.setCell ⟨gv, k * 3, none⟩ (.int .i64 1)).setCell ⟨gv, k * 3 + 1, none⟩ (.int .i64 (wdF l k An))).setCell ⟨gv, k * 3 + 2, none⟩ (.int .i64 0)) gv (l.length * 3)) := q2
            have Q3 : Hid (Below w.heap.size w (((w4.setCell ⟨gv, k * 3, none⟩ (.int .i64 1)).setCell ⟨gv, k * 3 + 1, none⟩ (.int .i64 (wdF l k An))).setCell ⟨gv, k * 3 + 2, none⟩ (.int .i64 0))) := q3
            have hne : a ≠ gv := by omega
            have Q4 : Hid (KM (((w4.setCell ⟨gv, k * 3, none⟩ (.int .i64 1)).setCell ⟨gv, k * 3 + 1, none⟩ (.int .i64 (wdF l k An))).setCell ⟨gv, k * 3 + 2, none⟩ (.int .i64 0)) a K) := ((HK4.out.setC hne _).setC hne _).setC hne _
            have hg5 : gv < (((w4.setCell ⟨gv, k * 3, none⟩ (.int .i64 1)).setCell ⟨gv, k * 3 + 1, none⟩ (.int .i64 (wdF l k An))).setCell ⟨gv, k * 3 + 2, none⟩ (.int .i64 0)).heap.size := by simpa using hg4
            have HG5 : Hid (gv < (((w4.setCell ⟨gv, k * 3, none⟩ (.int .i64 1)).setCell ⟨gv, k * 3 + 1, none⟩ (.int .i64 (wdF l k An))).setCell ⟨gv, k * 3 + 2, none⟩ (.int .i64 0)).heap.size) := hg5
            clear q1 q2 q3 HLI HST HSP HL2 hu HR4 HM4 HK4 hw4 hg5
            generalize wdF l k An = wv at *
            go_wp2
            go_roundw
            case rel => exact ⟨k + 1, by omega, by go_num, Q4.out, Q1.out, Q2.out, HG5.out, Q3.out⟩
            case measure => simp [intOf]; omega
        · have HP : Hid (partL l (k + 1) = partL l k) := HST.out (by rw [HLI.out]; simp [h2])
          have HR5 : Hid (Row W gv 0 (partL l (k + 1))) := by show Row _ _ _ _; rw [HP.out]; exact HRW.out
          have h2b : (op != 2) = true := by simp [h2]
          clear HLI HST HSP HP HRW
          go_wp2
          go_roundw
          case rel => exact ⟨k + 1, by omega, by go_num, HKW.out, HR5.out, HMW.out, hgW, hbwW⟩
          case measure => simp [intOf]; omega
      · obtain rfl : k = l.length := by omega
        have HG : Hid (Got w.heap.size wr (.slice (some ⟨gv, 0, none⟩) l.length cv) (ldA l)) := by
          show Got _ _ _ _
          rw [HE.out]
          exact ⟨gv, cv, by rw [partL_len], hgvw, hgs, hRw.out, by rw [partL_len]; exact hM.out⟩
        clear hRw hM hK HE
        go_wp2
        go_ret
        exact ⟨_, rfl, ⟨HG.out, fun _ => HKN.out⟩, hb⟩
theorem implLoaded (g cap : Nat) (l : List Tx.Ins) (hl : l.length ≤ 1048576) (w : World) (hr : Row w g 0 l) :
    Calls Try.prog 19 #[.slice (some ⟨g, 0, none⟩) l.length cap] w fun e w' => ∃ x, e = .returned x ∧ Got w.heap.size w' x (ldA l) ∧ Below w.heap.size w w' :=
  (implLoadedX g cap l hl w hr).mono fun _ _ ⟨x, h1, h2, h3⟩ => ⟨x, h1, h2.1, h3⟩
end Pg
end Go.Proofs.Ythabenjodhjgiaa

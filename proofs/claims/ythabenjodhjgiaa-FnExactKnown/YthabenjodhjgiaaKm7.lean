/- Contracts: all that is known of code. -/
import Derived.Test.YthabenjodhjgiaaKm6
import Derived.Laws.Tables
namespace Go.Proofs.Ythabenjodhjgiaa
namespace Pg
open Go.ChangeShapes Go.WideShapes Go.ChangeAt Go.RowKit St Wd

def zeroLC : List Value := .slice none 0 0 :: (chi 40 (fun _ => false) ++ [.map none, .map none, .map none])
theorem zeroL : (Try.prog.info? 66).map (fun i => (i.zero, i.size)) = some (some (.agg zeroLC.toArray), 44) := by kernel_rfl
theorem infoL : (Try.prog.info? 66).map (·.size) = some 44 := by kernel_rfl
theorem builtL (g n cap : Nat) (P : Nat → Bool) (a b c : Nat) : Try.prog.built 66 [(0, .slice (some ⟨g, 0, none⟩) n cap), (1, .agg (chi 40 P).toArray), (2, .map (some a)), (3, .map (some b)), (4, .map (some c))] = some (lrnC (.slice (some ⟨g, 0, none⟩) n cap) P a b c).toArray := by
  kernel_rfl
theorem lrnC_one (g n cap : Nat) (P : Nat → Bool) (a b c : Nat) : ∀ v ∈ lrnC (.slice (some ⟨g, 0, none⟩) n cap) P a b c, v.oneCell' = true := by
  intro v hv
  unfold lrnC at hv
  rcases List.mem_cons.1 hv with rfl | hv
  · rfl
  · rcases List.mem_append.1 hv with hv | hv
    · exact chi_one _ _ v hv
    · simp at hv; rcases hv with rfl | rfl | rfl <;> rfl
theorem wpList_alloc_lrn {w : World} {ops : Array Oper} {rest : List Oper} {o : Oper} {a : Act} {Q : Exit → Act → World → Prop} (hgd : o.guard = none) (ho : o.op = .alloc 66)
    (h : wpList Try.prog ops Q rest (a.put o.dst (.pointer (some ⟨w.heap.size, 0, none⟩))) (w.alloc (.cells zeroLC.toArray 66))) : wpList Try.prog ops Q (o :: rest) a w :=
  wpList_plain hgd fun K hK => by
    have hz1 := (zero_of_info zeroL).1 w
    unfold Oper.wp execOp
    simp [ho, Instr.alloc, hz1, Sem.run_bind, newVar, go_sem]
    exact hK _ _ h
theorem wpList_build_lrn {w : World} {ops : Array Oper} {rest : List Oper} {o : Oper} {a : Act} {Q : Exit → Act → World → Prop} (hgd : o.guard = none) (x0 x1 x2 x3 x4 : Operand) (ho : o.op = .build 66 #[(0, x0), (1, x1), (2, x2), (3, x3), (4, x4)])
    (g n cap : Nat) (P : Nat → Bool) (p q r : Nat) (e0 : a.eval x0 = .slice (some ⟨g, 0, none⟩) n cap) (e1 : a.eval x1 = .agg (chi 40 P).toArray) (e2 : a.eval x2 = .map (some p)) (e3 : a.eval x3 = .map (some q)) (e4 : a.eval x4 = .map (some r))
    (h : wpList Try.prog ops Q rest (a.put o.dst (.agg (lrnC (.slice (some ⟨g, 0, none⟩) n cap) P p q r).toArray)) w) : wpList Try.prog ops Q (o :: rest) a w := by
  have hb := builtL g n cap P p q r
  have hl : ((#[(0, x0), (1, x1), (2, x2), (3, x3), (4, x4)] : Array (Nat × Operand)).map fun (i, x) => (i, a.eval x)).toList = [(0, .slice (some ⟨g, 0, none⟩) n cap), (1, .agg (chi 40 P).toArray), (2, .map (some p)), (3, .map (some q)), (4, .map (some r))] := by simp [e0, e1, e2, e3, e4]
  refine wpList_build hgd 66 _ ho ?_ ?_
  · rw [hl, hb]; rfl
  · rw [hl, hb]; exact h
theorem made_KM (w : World) : KM (w.alloc (.map #[] 0)) w.heap.size noneK := ⟨.map [], own400 (World.ownsMap_made w _ _ _) (by simp [Maps.size_eq]), rep_nil⟩
/-- The spots of the first step, up to local k. -/
def firstK (k : Nat) : Kw := fun i s => if i = 0 ∧ s < k then some UnK else none
theorem firstK_step (k : Nat) : setK (firstK k) 0 k UnK = firstK (k + 1) := by
  funext i s
  unfold setK firstK
  by_cases e : i = 0 ∧ s = k
  · obtain ⟨rfl, rfl⟩ := e
    simp
  · rw [if_neg e]
    by_cases h0 : i = 0
    · have : ¬ s = k := fun h => e ⟨h0, h⟩
      have h2 : (s < k + 1) ↔ (s < k) := by omega
      simp only [h0, true_and, h2]
    · simp [h0]
open Classical in
noncomputable def bitK (C : Kw) : Nat := if C = noneK then 0 else 1
theorem bitK_le (C : Kw) : bitK C ≤ 1 := by unfold bitK; split <;> omega
/-- The learner on its way. -/
def LrI (code : List Tx.Ins) (g cap L a B : Nat) (w : World) (n : Nat) (wr : World) : Prop :=
  ∃ (b c : Nat) (K C : Kw), Cells wr L (lrnC (.slice (some ⟨g, 0, none⟩) code.length cap) (ldB code code.length) a b c) ∧ (B ≤ b ∧ B ≤ c) ∧ (L ≠ b ∧ L ≠ c ∧ a ≠ b ∧ a ≠ c ∧ b ≠ c) ∧ KM wr a K ∧ KM wr b C ∧ KM wr c noneK ∧ Lrn code K C noneK ∧
    1280 + bitK C ≤ 2 * hgK code.length K + n ∧ Below B w wr
set_option maxRecDepth 100000 in
set_option maxHeartbeats 4000000 in
theorem knownIn_at (g cap : Nat) (code : List Tx.Ins) (hok : Lay.codeOk code = true) (w : World) (hrow : Row w g 0 code) :
    Calls Try.prog 36 #[.slice (some ⟨g, 0, none⟩) code.length cap] w fun e w' => ∃ a K, e = .returned (.map (some a)) ∧ KM w' a K ∧ LeastK code K ∧ w.heap.size ≤ a ∧ Below w.heap.size w w' := by
  have HR : Hid (Row w g 0 code) := hrow
  have lg : g < w.heap.size := cell_lt (hrow 0 _ (ins_is (Lay.ok_len hok).1)).1
  clear hrow
  go_enter Try.func36, Try.ntmps36
  go_wp2_with fail
  refine (leadersIn_at g cap code hok w HR.out).mono ?_
  rintro e w1 ⟨rfl, hb1⟩
  generalize hP : ldB code code.length = P at *
  have HP : Hid (ldB code code.length = P) := hP
  clear hP
  have hmm := @run_makeMap Try.prog
  obtain ⟨M3, hM3⟩ : ∃ M3, M3 = ((w1.alloc (.map #[] 0)).alloc (.map #[] 0)).alloc (.map #[] 0) := ⟨_, rfl⟩
  have hk1 : KM M3 w1.heap.size noneK := by
    rw [hM3]
    exact ((made_KM w1).on ((Below.refl _ _).alloc (Nat.le_refl _) _)).on ((Below.refl _ _).alloc (Nat.le_refl _) _)
  have hk2 : KM M3 (w1.heap.size + 1) noneK := by
    rw [hM3]
    have := (made_KM (w1.alloc (.map #[] 0))).on ((Below.refl _ _).alloc (Nat.le_refl _) (.map #[] 0))
    simpa using this
  have hk3 : KM M3 (w1.heap.size + 1 + 1) noneK := by
    rw [hM3]
    have := made_KM ((w1.alloc (.map #[] 0)).alloc (.map #[] 0))
    simpa using this
  have hs3 : M3.heap.size = w1.heap.size + 1 + 1 + 1 := by rw [hM3]; simp
  have hb3 : Below w1.heap.size w1 M3 := by rw [hM3]; exact (((Below.refl _ _).alloc (Nat.le_refl _) _).alloc (by simp) _).alloc (by simp; omega) _
  have HM3 : Hid (M3 = ((w1.alloc (.map #[] 0)).alloc (.map #[] 0)).alloc (.map #[] 0)) := hM3
  have HZ : Hid (Cells ((((w1.alloc (.map #[] 0)).alloc (.map #[] 0)).alloc (.map #[] 0)).alloc (.cells zeroLC.toArray 66)) (w1.heap.size + 1 + 1 + 1) zeroLC) := by
    rw [← hM3]
    exact Cells.new M3 _ hs3.symm _ _
  have HZ2 : Hid (Cells (M3.alloc (.cells zeroLC.toArray 66)) (w1.heap.size + 1 + 1 + 1) zeroLC) := Cells.new M3 _ hs3.symm _ _
  clear hM3
  have HS3 : Hid (M3.heap.size = w1.heap.size + 1 + 1 + 1) := hs3
  clear hs3
  go_upto_region 2 with (first
    | (with_reducible refine wpList_alloc_lrn rfl rfl ?_)
    | (with_reducible refine wpList_build_lrn rfl _ _ _ _ _ rfl g code.length cap P w1.heap.size (w1.heap.size + 1) (w1.heap.size + 1 + 1) (by simp [Act.eval]) (by simp [Act.eval]) (by simp [Act.eval]) (by simp [Act.eval]) (by simp [Act.eval]) ?_)
    | (with_reducible refine wpList_store_mid rfl 66 (.tmp 3) (.tmp 11) rfl (w1.heap.size + 1 + 1 + 1) 0 (lrnC (.slice (some ⟨g, 0, none⟩) code.length cap) P w1.heap.size (w1.heap.size + 1) (w1.heap.size + 1 + 1)).toArray (by simp [Act.eval, Act.put]) (by simp [Act.eval, Act.put]) (HZ.out.there (by simp [lrnC_len, zeroLC, chi_len])) (by rw [infoL]; simp [lrnC_len]) (all_oneCell_toArray (lrnC_one _ _ _ _ _ _ _)) ?_))
  rw [← HM3.out, HS3.out]
  obtain ⟨X, hX⟩ : ∃ X, X = (M3.alloc (.cells zeroLC.toArray 66)).setCells (w1.heap.size + 1 + 1 + 1) 0 (lrnC (.slice (some ⟨g, 0, none⟩) code.length cap) P w1.heap.size (w1.heap.size + 1) (w1.heap.size + 1 + 1)) := ⟨_, rfl⟩
  rw [← hX]
  have hbX : Below M3.heap.size M3 X := by rw [hX]; exact below_setCells (by rw [HS3.out]; omega) _ _ ((Below.refl _ _).alloc (Nat.le_refl _) _)
  have HCX : Hid (Cells X (w1.heap.size + 1 + 1 + 1) (lrnC (.slice (some ⟨g, 0, none⟩) code.length cap) P w1.heap.size (w1.heap.size + 1) (w1.heap.size + 1 + 1))) := by
    show Cells _ _ _
    rw [hX]
    exact HZ2.out.put (by rw [lrnC_len]; simp [zeroLC, chi_len])
  have HK1 : Hid (KM X w1.heap.size noneK) := hk1.on hbX
  have HK2 : Hid (KM X (w1.heap.size + 1) noneK) := hk2.on hbX
  have HK3 : Hid (KM X (w1.heap.size + 1 + 1) noneK) := hk3.on hbX
  have hbw : Below w.heap.size w X := below_over hb1 (below_over hb3 hbX)
  have hw1 : w.heap.size ≤ w1.heap.size := hb1.size
  have HSX : Hid (X.heap.size = w1.heap.size + 1 + 1 + 1 + 1) := by show _ = _; rw [hX, size_setCells]; simp [HS3.out]
  clear hX hbX hk1 hk2 hk3 HZ HZ2 HM3 HS3 hb3 hb1 hmm
  have HB1 : Hid (Below w1.heap.size X X) := Below.refl _ _
  generalize hA : w1.heap.size = A at *
  clear hA
  go_frame
  go_wp2
  go_loopw [12] (fun i wr => ∃ k : Nat, k ≤ 8 ∧ i = .int .i64 (k : Int) ∧ Hid (Cells wr (A + 1 + 1 + 1) (lrnC (.slice (some ⟨g, 0, none⟩) code.length cap) P A (A + 1) (A + 1 + 1))) ∧ Hid (KM wr A noneK) ∧ Hid (KM wr (A + 1) (firstK k)) ∧ Hid (KM wr (A + 1 + 1) noneK) ∧ Below w.heap.size w wr) (fun i _ => 8 - (intOf i).toNat)
  case atStart =>
    refine ⟨0, by omega, rfl, HCX.out, HK1.out, ?_, HK3.out, hbw⟩
    have : firstK 0 = noneK := by funext i s; simp [firstK, noneK]
    show KM _ _ _
    rw [this]
    exact HK2.out
  case round =>
    clear HCX HK1 HK2 HK3 hbw HSX HB1
    obtain ⟨k, hk, rfl, hC, hK1, hK2, hK3, hb⟩ := hrel
    by_cases hlt : k < 8
    · have hki : (k : Int) < 8 := by omega
      obtain ⟨c42, _⟩ := hC.out 42 _ (lrnC_at _ _ _ _ _).2.1
      obtain ⟨D, hown, hrep⟩ := hK2.out
      have HK : Hid (keyOf Try.prog 51 (spV ((0 : Nat) : Int) k) = some (spK ((0 : Nat) : Int) k)) := keyOf_sp (wf64n (by omega)) (wf64n (by omega))
      have HU : Hid (plainElem (H := Unit) Try.prog 2 (.int .i64 1099511627776) = some (.lit (.int .i64 1099511627776), [])) := plainE (by omega) (by omega)
      have hLw : A + 1 + 1 + 1 < wr.heap.size := cell_lt c42
      go_wp2_with (first
        | (at_mapUpdate; refine wpList_mapUpdate_own _ rfl _ _ _ 47 rfl 51 2 keyedK mapT _ (A + 1) 400 D rfl hown (by unfold maxLen; omega) _ _ _ rfl rfl HK.out _ [] HU.out ?_; intro w2 ho2 hg2))
      have HK2' : Hid (KM w2 (A + 1) (firstK (k + 1))) := by
        show KM _ _ _
        rw [← firstK_step]
        exact KM.put hrep (hown.tidy keyedK) (by omega) hlt (by decide) (by decide) ho2
      have HC2 : Hid (Cells w2 (A + 1 + 1 + 1) (lrnC (.slice (some ⟨g, 0, none⟩) code.length cap) P A (A + 1) (A + 1 + 1))) := hC.out.gb hg2 (by omega) hLw
      have HK1' : Hid (KM w2 A noneK) := hK1.out.kept hg2 (by simp)
      have HK3' : Hid (KM w2 (A + 1 + 1) noneK) := hK3.out.kept hg2 (by simp)
      have hb2 : Below w.heap.size w w2 := gbB hb hg2 (by omega) (by omega)
      clear hown hrep ho2 hg2 hC hK1 hK2 hK3 hb c42 hLw
      go_roundw
      case rel => exact ⟨k + 1, by omega, by go_num, HC2.out, HK1'.out, HK2'.out, HK3'.out, hb2⟩
      case measure => simp [intOf]; omega
    · obtain rfl : k = 8 := by omega
      have hLwr : A + 1 + 1 + 1 < wr.heap.size := cell_lt (hC.out 0 _ rfl).1
      have hI : Hid (LrI code g cap (A + 1 + 1 + 1) A w.heap.size w 1281 wr) := by
        refine ⟨A + 1, A + 1 + 1, noneK, firstK 8, ?_, ⟨by omega, by omega⟩, ⟨by omega, by omega, by omega, by omega, by omega⟩, hK1.out, hK2.out, hK3.out, Lrn.start (Lay.ok_len hok).1, ?_, hb⟩
        · rw [HP.out]; exact hC.out
        · have := bitK_le (firstK 8); omega
      clear hC hK1 hK2 hK3 hb
      go_upto_region 7 with fail
      go_loopg [] 1281 (fun n wr => Hid (LrI code g cap (A + 1 + 1 + 1) A w.heap.size w n wr))
      case atStart => exact hI
      case round =>
        clear hI
        obtain ⟨b, c, K, C, hC, ⟨hB1, hB2⟩, hne, hKa, hKb, hKc, hlr, hmeas, hb⟩ := hrel.out
        clear hrel
        obtain ⟨c42, _⟩ := hC 42 _ (lrnC_at _ _ _ _ _).2.1
        have HC : Hid (Cells wr (A + 1 + 1 + 1) (lrnC (.slice (some ⟨g, 0, none⟩) code.length cap) (ldB code code.length) A b c)) := hC
        have HKa : Hid (KM wr A K) := hKa
        have HKb : Hid (KM wr b C) := hKb
        have HKc : Hid (KM wr c noneK) := hKc
        have HLR : Hid (Lrn code K C noneK) := hlr
        have HNE : Hid (A + 1 + 1 + 1 ≠ b ∧ A + 1 + 1 + 1 ≠ c ∧ A ≠ b ∧ A ≠ c ∧ b ≠ c) := hne
        have HME : Hid (1280 + bitK C ≤ 2 * hgK code.length K + gk) := hmeas
        obtain ⟨D, hown, hrep⟩ := hKb
        have hsz := hrep.size
        have hin := hrep.inn
        clear hC hKa hKc hlr hne hmeas hrep
        by_cases h0 : cntK C = 0
        · have hCn : C = noneK := none_ext hin h0
          subst hCn
          have hz : ((Maps.size D : Nat) : Int) = 0 := by omega
          have HLE : Hid (LeastK code K) := HLR.out.ends
          obtain ⟨c41, _⟩ := HC.out 41 _ (lrnC_at _ _ _ _ _).1
          clear hsz h0 hin HC HLR HKb HKc HME
          go_wp2_with (first
            | (at_len; refine wpList_len_own _ rfl _ 47 rfl 51 2 mapT _ b 400 D rfl hown ?_; rw [hz]))
          go_ret
          exact ⟨A, K, rfl, HKa.out, HLE.out, hw1, hb⟩
        · have hz : (0 : Int) < ((Maps.size D : Nat) : Int) := by omega
          have hCn : C ≠ noneK := fun e => by rw [e] at h0; exact h0 (by have := rep_nil.size; simpa [Maps.size_eq] using this.symm)
          have HBT : Hid (bitK C = 1) := by show _ = _; unfold bitK; rw [if_neg hCn]
          clear hsz h0 hin hCn
          generalize hq : ((Maps.size D : Nat) : Int) = sz at *
          have HQ : Hid (((Maps.size D : Nat) : Int) = sz) := hq
          clear hq
          go_wp2_with (first
            | (at_len; refine wpList_len_own _ rfl _ 47 rfl 51 2 mapT _ b 400 D rfl hown ?_; rw [HQ.out]))
          obtain ⟨e1, e2, e3, e4, e5⟩ := HNE.out
          refine (goOn_at g cap (A + 1 + 1 + 1) A b c code hok w.heap.size wr (HR.out.below hb lg) lg ⟨by omega, hw1, hB1, hB2⟩ ⟨by omega, e1, e2, e3, e4, e5⟩ HC.out K C HKa.out HKb.out HKc.out HLR.out).mono ?_
          rintro e w2 ⟨rfl, K', M, f1, f2, f3, f4, f5, f6, f7, f8⟩
          have hI : Hid (LrI code g cap (A + 1 + 1 + 1) A w.heap.size w (gk - 1) w2) := by
            refine ⟨c, b, K', M, f1, ⟨hB2, hB1⟩, ⟨e2, e1, e4, e3, fun h => e5 h.symm⟩, f2, f3, f4, f5, ?_, hb.trans f8⟩
            have h1 := HME.out
            rw [HBT.out] at h1
            have h2 := hgK_le (n := code.length) f6
            rcases f7 with f7 | f7
            · have := bitK_le M; omega
            · have : bitK M = 0 := by unfold bitK; rw [if_pos f7]
              omega
          have hgk : gk - 1 < gk := by
            have h1 := HME.out
            rw [HBT.out] at h1
            have h2 := hgK_bd code.length K
            have h3 := (Lay.ok_len hok).2
            omega
          clear f1 f2 f3 f4 f5 f6 f7 f8 HME HBT HC HKa HKb HKc HLR hown
          go_wp2
          go_roundg (gk - 1)
          case rel => exact hI
          case measure => exact hgk
end Pg
end Go.Proofs.Ythabenjodhjgiaa

/- The walk of the law FnExactEffect. -/
import Derived.Test.YtfdlljdljefkfaaGreatDoorJEf1
import Derived.Test.YtfdlljdljefkfaaGreatDoorJPz0
import Derived.Test.YtfdlljdljefkfaaGreatDoorJSt2
import Derived.Test.YtfdlljdljefkfaaGreatDoorJOSta
import Derived.Deep.RegionWith
namespace Go.Proofs.YtfdlljdljefkfaaGreatDoor
namespace Pg
open Go.ChangeShapes Go.WideShapes Go.ChangeAt Go.RowKit St

theorem effect_len {p : Prg} {t name : Int} {i : Tx.Ins} {s x : Sta} (h : effectF p t name i s = some x) : x.1.length ≤ 8 ∧ x.2.length ≤ 8 := by
  cases hm : methF p t name with
  | none => rw [effect_no hm] at h; cases h
  | some m =>
    by_cases hb : (Tx.okT i && stateB p.length s.1 s.2) = true
    · rw [effect_of hm hb] at h
      simp only [Bool.and_eq_true] at hb
      have h3 := okSt_iff.1 (eff_ok (meth_parts hm).1 m.gives hb.1 (s := s) hb.2 h)
      omega
    · rw [effect_bad hm (by simpa using hb)] at h; cases h
theorem StZ.cell2 {B D k : Nat} {u : World} {sv lv : Value} {s : Sta} (h : StZ B D u sv lv s) (x y : Value) (hk : k < B ∨ D ≤ k) : StZ B D ((u.setCell ⟨k, 0, none⟩ x).setCell ⟨k, 1, none⟩ y) sv lv s :=
  h.moved (by simp) fun j h1 h2 _ => (Below.heap_setCell _ ⟨k, 1, none⟩ y j (by intro e; simp at e; omega)).trans (Below.heap_setCell u ⟨k, 0, none⟩ x j (by intro e; simp at e; omega))
theorem toState2 (st lo : List Int) (x1 x2 : Option Addr) (c1 c2 : Nat) (h1 : st.length ≤ 1048576) (h2 : lo.length ≤ 1048576) (w : World) (hi : SI false 0 w (.slice x1 st.length c1) st) (hl : SI false 0 w (.slice x2 lo.length c2) lo) :
    Calls Tryz.prog 9 #[.agg #[.slice x1 st.length c1, .slice x2 lo.length c2]] w fun e w' => ∃ y1 y2, e = .returned (.agg #[.slice y1 st.length st.length, .slice y2 lo.length lo.length]) ∧ StZ w.heap.size w'.heap.size w' (.slice y1 st.length st.length) (.slice y2 lo.length lo.length) (st, lo) ∧ Below w.heap.size w w' := toState (st, lo) x1 x2 c1 c2 h1 h2 w hi hl
theorem eqState2 (B D B' D' : Nat) (st lo : List Int) (h1 : st.length ≤ 1048576) (h2 : lo.length ≤ 1048576) (x1 x2 y1 y2 : Option Addr) (c1 c2 d1 d2 : Nat) (w : World) (h : StZ B D w (.slice x1 st.length c1) (.slice x2 lo.length c2) (st, lo)) (k : StZ B' D' w (.slice y1 st.length d1) (.slice y2 lo.length d2) (st, lo)) :
    Calls Tryz.prog 11 #[.agg #[.slice x1 st.length c1, .slice x2 lo.length c2], .agg #[.slice y1 st.length d1, .slice y2 lo.length d2]] w fun e w' => e = .returned (.bool true) ∧ Below w.heap.size w w' := eqStateZ B D B' D' (st, lo) h1 h2 x1 x2 y1 y2 c1 c2 d1 d2 w h k
theorem markState2 (B D m : Nat) (st lo : List Int) (h1 : st.length ≤ 1048576) (h2 : lo.length ≤ 1048576) (hm : m + st.length + lo.length ≤ 4000000) (x1 x2 : Option Addr) (c1 c2 : Nat) (w : World) (hB : B ≤ w.heap.size) (hD : D ≤ w.heap.size) (h : StZ B D w (.slice x1 st.length c1) (.slice x2 lo.length c2) (st, lo)) :
    Calls Tryz.prog 14 #[.agg #[.slice x1 st.length c1, .slice x2 lo.length c2], .int .i64 m] w fun e w' => e = .returned (.int .i64 ((m + st.length + lo.length : Nat) : Int)) ∧ Below B w w' ∧ Keep D w w' := (markStateZ B D m (st, lo) h1 h2 hm x1 x2 c1 c2 w hB hD h).mono fun _ _ ⟨g1, _, g3, g4⟩ => ⟨g1, g3, g4⟩
/-- A state that a call has made, in a block of its own. -/
def Got2 (base : World) (s : Sta) (v : Value) (y : World) : Prop :=
  ∃ k B D x1 c1 x2 c2, v = .pointer (some ⟨k, 0, none⟩) ∧ base.heap.size ≤ k ∧ base.heap.size ≤ B ∧ B ≤ D ∧ D ≤ y.heap.size ∧ (k < B ∨ D ≤ k) ∧ Cells y k [.slice x1 s.1.length c1, .slice x2 s.2.length c2] ∧ StZ B D y (.slice x1 s.1.length c1) (.slice x2 s.2.length c2) s ∧ Below base.heap.size base y

set_option maxRecDepth 100000 in
set_option maxHeartbeats 8000000 in
theorem effLaw (bs : Addr) (a : Option Addr) (cap : Nat) (p : Prg) (t name : Int) (i : Tx.Ins) (y1 y2 : Option Addr) (z1 z2 : Nat) (st lo : List Int) (hs : SaneP p) (hsl : st.length ≤ 9223372036854775807 ∧ lo.length ≤ 9223372036854775807) (w : World) (hsn : Snt w bs) (hin : SK wide 0 w (.slice a p.length cap) p) (hi1 : SI false 0 w (.slice y1 st.length z1) st) (hi2 : SI false 0 w (.slice y2 lo.length z2) lo) :
    Calls Tryz.prog 3 #[.agg #[.slice a p.length cap], .int .i64 t, .int .i64 name, .agg #[.int .i64 i.1, .int .i64 i.2.1, .int .i64 i.2.2], .agg #[.slice y1 st.length z1, .slice y2 lo.length z2]] w fun e w' => e = .returned (.bool true) ∧ Below w.heap.size w w' := by
  have HIN : Hid (SK wide 0 w (.slice a p.length cap) p) := hin
  have HI1 : Hid (SI false 0 w (.slice y1 st.length z1) st) := hi1
  have HI2 : Hid (SI false 0 w (.slice y2 lo.length z2) lo) := hi2
  have HS : Hid (SaneP p) := hs
  have HSNT : Hid (Snt w bs) := hsn
  clear hin hs hsn hi1 hi2
  obtain ⟨W, hW⟩ : ∃ W, W = ((w.alloc (.cells #[.slice a p.length cap] 24)).alloc (.cells #[.int .i64 i.1, .int .i64 i.2.1, .int .i64 i.2.2] 26)).alloc (.cells #[.slice y1 st.length z1, .slice y2 lo.length z2] 29) := ⟨_, rfl⟩
  have hwW : Below w.heap.size w W := by rw [hW]; exact (((Below.refl _ _).alloc (Nat.le_refl _) _).alloc (by simp) _).alloc (by simp; omega) _
  have L0 : Hid (Cells W w.heap.size [.slice a p.length cap]) := by rw [hW]; exact ((Cells.new w _ rfl _ _).alloc _).alloc _
  have L1 : Hid (Cells W (w.heap.size + 1) [.int .i64 i.1, .int .i64 i.2.1, .int .i64 i.2.2]) := by rw [hW]; exact (Cells.new (w.alloc _) _ (by simp) _ _).alloc _
  have L2 : Hid (Cells W (w.heap.size + 1 + 1) [.slice y1 st.length z1, .slice y2 lo.length z2]) := by rw [hW]; exact Cells.new ((w.alloc _).alloc _) _ (by simp) _ _
  by_cases hsz : (szP p : Int) ≤ 1048576
  · have HSN : Hid (szP p ≤ 1048576) := by show _ ≤ _; omega
    have HSM : Hid (SmallP p) := SmallP.of HSN.out
    have HSZ : Hid (szR (szP p) 1048576 = 1048576 - (szP p : Int)) := szR_yes hsz
    obtain ⟨L, hL⟩ : ∃ L : Int, L = 1048576 - (szP p : Int) := ⟨_, rfl⟩
    have hL0 : 0 ≤ L := by omega
    have hL1 : L ≤ 1048576 := by omega
    have hLn : ¬ L < 0 := by omega
    rw [← hL] at HSZ
    have HLE : Hid (L = 1048576 - (szP p : Int)) := hL
    have HSL : Hid (st.length ≤ 9223372036854775807 ∧ lo.length ≤ 9223372036854775807) := hsl
    clear hL hsl hsz
    go_enter Tryz.func3, Tryz.ntmps3
    go_wp2_with fail
    rw [← hW]
    clear hW
    refine (szProgram wide 0 a cap p HS.out W (SK.on HIN.out (Keep.of hwW))).mono ?_
    rw [HSZ.out]
    rintro e w1 ⟨rfl, hb1⟩
    have hW1 : Below W.heap.size W w1 := hb1
    obtain ⟨s0, _⟩ := (L2.out.on hW1).g0
    obtain ⟨s1, _⟩ := (L2.out.on hW1).g1
    clear hb1 HSZ
    go_wp2_with fail
    refine (szState y1 y2 st.length lo.length z1 z2 L hL0 hL1 HSL.out.1 HSL.out.2 w1).mono ?_
    by_cases hst : ((st.length + lo.length : Nat) : Int) ≤ L
    · rw [szR_yes hst]
      rintro e w2 ⟨rfl, hb2⟩
      have hW2 : Below W.heap.size W w2 := below_over hW1 hb2
      clear hb2 s0 s1
      have hM0 : ¬ (L - ((st.length + lo.length : Nat) : Int) < 0) := by omega
      have h1 : st.length ≤ 1048576 := by omega
      have h2 : lo.length ≤ 1048576 := by omega
      have HCT : Hid (1 + cntP p + st.length + lo.length ≤ 4000000) := by
        show _ ≤ _
        have := cntP_le p
        have := HLE.out
        omega
      obtain ⟨s, q, h8', h9', HSF, HIF⟩ : ∃ (s : Sta) (q : Bool), s.1.length ≤ 8 ∧ s.2.length ≤ 8 ∧
          Hid (∀ B v d x1 x2 u, SK front B u (.slice v p.length d) p → SI true B u (.slice x1 st.length st.length) st → SI true B u (.slice x2 lo.length lo.length) lo → Calls Tryz.prog 6 #[.agg #[.slice v p.length d], .int .i64 t, .int .i64 name, .agg #[.int .i64 i.1, .int .i64 i.2.1, .int .i64 i.2.2], .agg #[.slice x1 st.length st.length, .slice x2 lo.length lo.length]] u fun e w' => StAns s q u e w') ∧
          Hid (∀ B v d x1 x2 u, Below w.heap.size w u → SK front B u (.slice v p.length d) p → SI true B u (.slice x1 st.length st.length) st → SI true B u (.slice x2 lo.length lo.length) lo → Calls Tryz.prog 10 #[.agg #[.slice v p.length d], .int .i64 t, .int .i64 name, .agg #[.int .i64 i.1, .int .i64 i.2.1, .int .i64 i.2.2], .agg #[.slice x1 st.length st.length, .slice x2 lo.length lo.length]] u fun e w' => StAns s q u e w') := by
        obtain ⟨s, q, g1, g2, g3⟩ := st_ans (effectF p t name i (st, lo)) (fun x hx => effect_len hx)
        exact ⟨s, q, g1, g2, fun B v d x1 x2 u k1 k2 k3 => (specEffect B p v d t name HSM.out i x1 x2 st.length lo.length st lo (Nat.le_refl _) u k1 k2 k3).mono fun e w' hp => g3 _ _ _ hp, fun B v d x1 x2 u hb k1 k2 k3 => (implEffect B p v d t name HSM.out i x1 x2 st.length lo.length st lo h1 h2 u bs ((hb.cell (cell_lt HSNT.out)).trans HSNT.out) k1 k2 k3).mono fun e w' hp => g3 _ _ _ hp⟩
      have h8 : s.1.length ≤ 1048576 := by omega
      have h9 : s.2.length ≤ 1048576 := by omega
      have HMS : Hid (1 + s.1.length + s.2.length ≤ 4000000) := by show _ ≤ _; omega
      clear h8' h9'
      have HWC : Hid (∀ y, At1 W W.heap.size y → y.cell? ⟨w.heap.size, 0, none⟩ = some (.slice a p.length cap) ∧ y.cell? ⟨w.heap.size + 1, 0, none⟩ = some (.int .i64 i.1) ∧ y.cell? ⟨w.heap.size + 1, 1, none⟩ = some (.int .i64 i.2.1) ∧ y.cell? ⟨w.heap.size + 1, 2, none⟩ = some (.int .i64 i.2.2) ∧ y.cell? ⟨w.heap.size + 1 + 1, 0, none⟩ = some (.slice y1 st.length z1) ∧ y.cell? ⟨w.heap.size + 1 + 1, 1, none⟩ = some (.slice y2 lo.length z2)) := fun y hy => ⟨hy _ _ _ (Nat.ne_of_lt (cell_lt ((L0.out).g0.1))) (cell_lt ((L0.out).g0.1)) ((L0.out).g0.1), hy _ _ _ (Nat.ne_of_lt (cell_lt ((L1.out).g0.1))) (cell_lt ((L1.out).g0.1)) ((L1.out).g0.1), hy _ _ _ (Nat.ne_of_lt (cell_lt ((L1.out).g1.1))) (cell_lt ((L1.out).g1.1)) ((L1.out).g1.1), hy _ _ _ (Nat.ne_of_lt (cell_lt ((L1.out).g2.1))) (cell_lt ((L1.out).g2.1)) ((L1.out).g2.1), hy _ _ _ (Nat.ne_of_lt (cell_lt ((L2.out).g0.1))) (cell_lt ((L2.out).g0.1)) ((L2.out).g0.1), hy _ _ _ (Nat.ne_of_lt (cell_lt ((L2.out).g1.1))) (cell_lt ((L2.out).g1.1)) ((L2.out).g1.1)⟩
      go_wp2_with fail
      go_cut [12, 13] (fun v b y => b = .bool q ∧ Got2 W s v y)
      case first =>
        rename_i J KK hJ hKK
        have hD0 : Below W.heap.size W w2.drew := hW2.drew
        refine wp_region_held_drew (S := At1 W W.heap.size) (by kernel_rfl) (At1.of hD0) (fun hHeld => ?_)
        generalize w2.drew = Q0 at hD0 hHeld ⊢
        refine wpAnyH_take (i := 0) (v := ?_) rfl (by kernel_rfl) (by kernel_rfl) (by kernel_rfl) (fun _ _ _ h => h) (Or.inl ⟨by rfl, ?_⟩) hHeld ?_
        rotate_left 1
        · intro w' hSw
          obtain ⟨c0, c1, c2, c3, c4, c5⟩ := HWC.out _ hSw
          go_simp
          try with_reducible rfl
        simp only [Act.put, List.getElem_toArray, List.getElem_cons_zero]
        refine wpAnyH_take (i := 2) (v := ?_) rfl (by kernel_rfl) (by kernel_rfl) (by kernel_rfl) (fun _ _ _ h => h) (Or.inl ⟨by rfl, ?_⟩) hHeld ?_
        rotate_left 1
        · intro w' hSw
          obtain ⟨c0, c1, c2, c3, c4, c5⟩ := HWC.out _ hSw
          go_simp
          try with_reducible rfl
        simp only [Act.put, List.getElem_toArray, List.getElem_cons_zero, List.getElem_cons_succ]
        refine wpAnyH_take (i := 3) (v := ?_) rfl (by kernel_rfl) (by kernel_rfl) (by kernel_rfl) (fun _ _ _ h => h) (Or.inl ⟨by rfl, ?_⟩) hHeld ?_
        rotate_left 1
        · intro w' hSw
          obtain ⟨c0, c1, c2, c3, c4, c5⟩ := HWC.out _ hSw
          go_simp
          try with_reducible rfl
        simp only [Act.put, List.getElem_toArray, List.getElem_cons_zero, List.getElem_cons_succ]
        refine wpAnyH_take (i := 4) (v := ?_) rfl (by kernel_rfl) (by kernel_rfl) (by kernel_rfl) (fun _ _ _ h => h) (Or.inl ⟨by rfl, ?_⟩) hHeld ?_
        rotate_left 1
        · intro w' hSw
          obtain ⟨c0, c1, c2, c3, c4, c5⟩ := HWC.out _ hSw
          go_simp
          try with_reducible rfl
        simp only [Act.put, List.getElem_toArray, List.getElem_cons_zero, List.getElem_cons_succ]
        refine wpAnyH_take (i := 6) (v := ?_) rfl (by kernel_rfl) (by kernel_rfl) (by kernel_rfl) (fun _ _ _ h => h) (Or.inl ⟨by rfl, ?_⟩) hHeld ?_
        rotate_left 1
        · intro w' hSw
          obtain ⟨c0, c1, c2, c3, c4, c5⟩ := HWC.out _ hSw
          go_simp
          try with_reducible rfl
        simp only [Act.put, List.getElem_toArray, List.getElem_cons_zero, List.getElem_cons_succ]
        refine wpAnyH_ready (rs := [1, 12]) (by kernel_rfl) (by simp) ?_
        refine AllReadyH.cons rfl (fun K hK => ?_) (AllReadyH.cons rfl (fun K hK => ?_) AllReadyH.nil)
        · go_simp
          refine (toProgram p a cap HSM.out Q0 (SK.on HIN.out (Keep.of (below_over hwW hD0)))).mono ?_
          rintro e XS1 ⟨vXS1, rfl, hvXS1, hbXS1⟩
          obtain ⟨a2, d2, rfl⟩ := hvXS1.form
          have hXS1 : Below W.heap.size W XS1 := below_over hD0 hbXS1
          have HV_XS1 : Hid (SK front W.heap.size XS1 (.slice a2 p.length d2) p) := SK.weak hvXS1 hD0.size
          dsimp only
          refine hK.out _ _ (At1.of hXS1) (fun hHeld => ?_)
          clear hK K hbXS1 
          refine wpAnyH_ready (rs := [5, 12]) (by kernel_rfl) (by simp) ?_
          refine AllReadyH.cons rfl (fun K hK => ?_) (AllReadyH.cons rfl (fun K hK => ?_) AllReadyH.nil)
          · go_simp
            refine (St.toInsn i.1 i.2.1 i.2.2 XS1).mono ?_
            rintro e XS2 ⟨rfl, hbXS2⟩
            have hXS2 : Below W.heap.size W XS2 := below_over hXS1 hbXS2
            have HV_XS2 : Hid (SK front W.heap.size XS2 (.slice a2 p.length d2) p) := SK.on HV_XS1.out (Keep.of hbXS2)
            dsimp only
            refine hK.out _ _ (At1.of hXS2) (fun hHeld => ?_)
            clear hK K hbXS2 
            clear HV_XS1
            refine wpAnyH_ready (rs := [7, 12]) (by kernel_rfl) (by simp) ?_
            refine AllReadyH.cons rfl (fun K hK => ?_) (AllReadyH.cons rfl (fun K hK => ?_) AllReadyH.nil)
            · go_simp
              refine (toState2 st lo y1 y2 z1 z2 h1 h2 XS2 (SI.on HI1.out (Keep.of (below_over hwW hXS2))) (SI.on HI2.out (Keep.of (below_over hwW hXS2)))).mono ?_
              rintro e XS3 ⟨p1, p2, rfl, hzXS3, hbXS3⟩
              have hXS3 : Below W.heap.size W XS3 := below_over hXS2 hbXS3
              have HV_XS3 : Hid (SK front W.heap.size XS3 (.slice a2 p.length d2) p) := SK.on HV_XS2.out (Keep.of hbXS3)
              have HS1_XS3 : Hid (SI true W.heap.size XS3 (.slice p1 st.length st.length) st) := SI.weak hzXS3.1.si hXS2.size
              have HS2_XS3 : Hid (SI true W.heap.size XS3 (.slice p2 lo.length lo.length) lo) := SI.weak hzXS3.2.1.si hXS2.size
              dsimp only
              refine hK.out _ _ (At1.of hXS3) (fun hHeld => ?_)
              clear hK K hbXS3 
              clear HV_XS2
              refine wpAnyH_ready (rs := [8, 12]) (by kernel_rfl) (by simp) ?_
              refine AllReadyH.cons rfl (fun K hK => ?_) (AllReadyH.cons rfl (fun K hK => ?_) AllReadyH.nil)
              · go_simp
                refine (HSF.out W.heap.size a2 d2 p1 p2 XS3 HV_XS3.out HS1_XS3.out HS2_XS3.out).mono ?_
                rintro e XS4 ⟨xs, ys, us, vs, rfl, hgXS4, hbXS4⟩
                have hXS4 : Below W.heap.size W XS4 := below_over hXS3 hbXS4
                have G_XS4 : Hid (StZ XS3.heap.size XS4.heap.size XS4 (.slice xs s.1.length ys) (.slice us s.2.length vs) s) := hgXS4
                have hsl : W.heap.size ≤ XS3.heap.size := hXS3.size
                have hBD : XS3.heap.size ≤ XS4.heap.size := hbXS4.size
                have hDY : XS4.heap.size ≤ XS4.heap.size := Nat.le_refl _
                dsimp only
                refine hK.out _ _ (At1.of hXS4) (fun hHeld => ?_)
                clear hK K hbXS4 
                clear HV_XS3 HS1_XS3 HS2_XS3
                refine wpAnyH_take (i := 9) (v := ?_) rfl (by kernel_rfl) (by kernel_rfl) (by kernel_rfl) (fun _ _ _ h => h) (Or.inl ⟨by rfl, ?_⟩) hHeld ?_
                rotate_left 1
                · intro w' hSw
                  obtain ⟨c0, c1, c2, c3, c4, c5⟩ := HWC.out _ hSw
                  go_simp
                  try with_reducible rfl
                simp only [Act.put, List.getElem_toArray, List.getElem_cons_zero, List.getElem_cons_succ]
                refine wpAnyH_take (i := 10) (v := ?_) rfl (by kernel_rfl) (by kernel_rfl) (by kernel_rfl) (fun _ _ _ h => h) (Or.inl ⟨by rfl, ?_⟩) hHeld ?_
                rotate_left 1
                · intro w' hSw
                  obtain ⟨c0, c1, c2, c3, c4, c5⟩ := HWC.out _ hSw
                  go_simp
                  try with_reducible rfl
                simp only [Act.put, List.getElem_toArray, List.getElem_cons_zero, List.getElem_cons_succ]
                refine wpAnyH_take (i := 11) (v := ?_) rfl (by kernel_rfl) (by kernel_rfl) (by kernel_rfl) (fun _ _ _ h => h) (Or.inl ⟨by rfl, ?_⟩) hHeld ?_
                rotate_left 1
                · intro w' hSw
                  obtain ⟨c0, c1, c2, c3, c4, c5⟩ := HWC.out _ hSw
                  go_simp
                  try with_reducible rfl
                simp only [Act.put, List.getElem_toArray, List.getElem_cons_zero, List.getElem_cons_succ]
                refine wpAnyH_ready (rs := [12]) (by kernel_rfl) (by simp) ?_
                refine AllReadyH.cons rfl (fun K hK => ?_) AllReadyH.nil
                go_simp
                have hXS5 : Below W.heap.size W (XS4.alloc (.cells #[.slice none 0 0, .slice none 0 0] 32)) := hXS4.alloc hXS4.size _
                have CKXS5 : Hid (Cells (XS4.alloc (.cells #[.slice none 0 0, .slice none 0 0] 32)) XS4.heap.size [.slice none 0 0, .slice none 0 0]) := Cells.new XS4 _ rfl _ _
                have hkXS5 : W.heap.size ≤ XS4.heap.size := hXS4.size
                clear hDY
                have hDY : XS4.heap.size ≤ (XS4.alloc (.cells #[.slice none 0 0, .slice none 0 0] 32)).heap.size := by simp
                have G_XS5 : Hid (StZ XS3.heap.size XS4.heap.size (XS4.alloc (.cells #[.slice none 0 0, .slice none 0 0] 32)) (.slice xs s.1.length ys) (.slice us s.2.length vs) s) := (G_XS4.out).on ((Below.refl _ _).alloc (Nat.le_refl _) _)
                refine hK.out _ _ (At1.of hXS5) (fun hHeld => ?_)
                clear hK K
                generalize XS4.alloc (.cells #[.slice none 0 0, .slice none 0 0] 32) = XS5 at hXS5 CKXS5 G_XS5 hDY hHeld ⊢
                clear G_XS4
                have hap : XS4.heap.size < XS3.heap.size ∨ XS4.heap.size ≤ XS4.heap.size := .inr (Nat.le_refl _)
                refine wpAnyH_ready (rs := [13]) (by kernel_rfl) (by simp) ?_
                refine AllReadyH.cons rfl (fun K hK => ?_) AllReadyH.nil
                obtain ⟨m0, f0⟩ := CKXS5.out.g0
                obtain ⟨m1, f1⟩ := CKXS5.out.g1
                have CZ := (CKXS5.out.s0 (.slice xs s.1.length ys)).s1 (.slice us s.2.length vs)
                have hZ : Below W.heap.size W ((XS5.setCell ⟨XS4.heap.size, 0, none⟩ (.slice xs s.1.length ys)).setCell ⟨XS4.heap.size, 1, none⟩ (.slice us s.2.length vs)) := (hXS5.setCell (p := ⟨XS4.heap.size, 0, none⟩) hkXS5 _).setCell (p := ⟨XS4.heap.size, 1, none⟩) hkXS5 _
                have GZ' := G_XS5.out.cell2 (.slice xs s.1.length ys) (.slice us s.2.length vs) hap
                go_simp
                refine hK.out _ _ (At1.of hZ) (fun hHeld => ?_)
                clear hK K m0 m1 f0 f1
                refine wpAnyH_ready (rs := [14]) (by kernel_rfl) (by simp) ?_
                refine AllReadyH.cons rfl (fun K hK => ?_) AllReadyH.nil
                go_simp
                refine hK.out _ _ (At1.of hZ) (fun hHeld => ?_)
                clear hK K
                refine wpAnyH_done (by kernel_rfl) ?_ _
                go_simp
                refine hKK _ _ (Met.intro (hJ _ _ ?_))
                (repeat apply Exists.intro)
                exact ⟨⟨rfl, _, _, _, _, _, _, _, rfl, hkXS5, hsl, hBD, by simpa using hDY, hap, CZ, GZ', hZ⟩, rfl⟩
              · go_simp
                have hXS6 : Below W.heap.size W (XS3.alloc (.cells #[.slice none 0 0, .slice none 0 0] 32)) := hXS3.alloc hXS3.size _
                have CKXS6 : Hid (Cells (XS3.alloc (.cells #[.slice none 0 0, .slice none 0 0] 32)) XS3.heap.size [.slice none 0 0, .slice none 0 0]) := Cells.new XS3 _ rfl _ _
                have hkXS6 : W.heap.size ≤ XS3.heap.size := hXS3.size
                have HV_XS6 : Hid (SK front W.heap.size (XS3.alloc (.cells #[.slice none 0 0, .slice none 0 0] 32)) (.slice a2 p.length d2) p) := SK.on HV_XS3.out (Keep.of ((Below.refl _ _).alloc (Nat.le_refl _) _))
                have HS1_XS6 : Hid (SI true W.heap.size (XS3.alloc (.cells #[.slice none 0 0, .slice none 0 0] 32)) (.slice p1 st.length st.length) st) := SI.on HS1_XS3.out (Keep.of ((Below.refl _ _).alloc (Nat.le_refl _) _))
                have HS2_XS6 : Hid (SI true W.heap.size (XS3.alloc (.cells #[.slice none 0 0, .slice none 0 0] 32)) (.slice p2 lo.length lo.length) lo) := SI.on HS2_XS3.out (Keep.of ((Below.refl _ _).alloc (Nat.le_refl _) _))
                refine hK.out _ _ (At1.of hXS6) (fun hHeld => ?_)
                clear hK K
                generalize XS3.alloc (.cells #[.slice none 0 0, .slice none 0 0] 32) = XS6 at hXS6 CKXS6 HV_XS6 HS1_XS6 HS2_XS6  hHeld ⊢
                clear HV_XS3 HS1_XS3 HS2_XS3
                refine wpAnyH_ready (rs := [8]) (by kernel_rfl) (by simp) ?_
                refine AllReadyH.cons rfl (fun K hK => ?_) AllReadyH.nil
                go_simp
                refine (HSF.out W.heap.size a2 d2 p1 p2 XS6 HV_XS6.out HS1_XS6.out HS2_XS6.out).mono ?_
                rintro e XS7 ⟨xs, ys, us, vs, rfl, hgXS7, hbXS7⟩
                have hXS7 : Below W.heap.size W XS7 := below_over hXS6 hbXS7
                have G_XS7 : Hid (StZ XS6.heap.size XS7.heap.size XS7 (.slice xs s.1.length ys) (.slice us s.2.length vs) s) := hgXS7
                have CKXS7 : Hid (Cells XS7 XS3.heap.size [.slice none 0 0, .slice none 0 0]) := CKXS6.out.on hbXS7
                have hap : XS3.heap.size < XS6.heap.size ∨ XS7.heap.size ≤ XS3.heap.size := .inl (cell_lt CKXS6.out.g0.1)
                have hsl : W.heap.size ≤ XS6.heap.size := hXS6.size
                have hBD : XS6.heap.size ≤ XS7.heap.size := hbXS7.size
                have hDY : XS7.heap.size ≤ XS7.heap.size := Nat.le_refl _
                dsimp only
                refine hK.out _ _ (At1.of hXS7) (fun hHeld => ?_)
                clear hK K hbXS7 
                clear HV_XS6 HS1_XS6 HS2_XS6
                clear CKXS6
                refine wpAnyH_take (i := 9) (v := ?_) rfl (by kernel_rfl) (by kernel_rfl) (by kernel_rfl) (fun _ _ _ h => h) (Or.inl ⟨by rfl, ?_⟩) hHeld ?_
                rotate_left 1
                · intro w' hSw
                  obtain ⟨c0, c1, c2, c3, c4, c5⟩ := HWC.out _ hSw
                  go_simp
                  try with_reducible rfl
                simp only [Act.put, List.getElem_toArray, List.getElem_cons_zero, List.getElem_cons_succ]
                refine wpAnyH_take (i := 10) (v := ?_) rfl (by kernel_rfl) (by kernel_rfl) (by kernel_rfl) (fun _ _ _ h => h) (Or.inl ⟨by rfl, ?_⟩) hHeld ?_
                rotate_left 1
                · intro w' hSw
                  obtain ⟨c0, c1, c2, c3, c4, c5⟩ := HWC.out _ hSw
                  go_simp
                  try with_reducible rfl
                simp only [Act.put, List.getElem_toArray, List.getElem_cons_zero, List.getElem_cons_succ]
                refine wpAnyH_take (i := 11) (v := ?_) rfl (by kernel_rfl) (by kernel_rfl) (by kernel_rfl) (fun _ _ _ h => h) (Or.inl ⟨by rfl, ?_⟩) hHeld ?_
                rotate_left 1
                · intro w' hSw
                  obtain ⟨c0, c1, c2, c3, c4, c5⟩ := HWC.out _ hSw
                  go_simp
                  try with_reducible rfl
                simp only [Act.put, List.getElem_toArray, List.getElem_cons_zero, List.getElem_cons_succ]
                refine wpAnyH_ready (rs := [13]) (by kernel_rfl) (by simp) ?_
                refine AllReadyH.cons rfl (fun K hK => ?_) AllReadyH.nil
                obtain ⟨m0, f0⟩ := CKXS7.out.g0
                obtain ⟨m1, f1⟩ := CKXS7.out.g1
                have CZ := (CKXS7.out.s0 (.slice xs s.1.length ys)).s1 (.slice us s.2.length vs)
                have hZ : Below W.heap.size W ((XS7.setCell ⟨XS3.heap.size, 0, none⟩ (.slice xs s.1.length ys)).setCell ⟨XS3.heap.size, 1, none⟩ (.slice us s.2.length vs)) := (hXS7.setCell (p := ⟨XS3.heap.size, 0, none⟩) hkXS6 _).setCell (p := ⟨XS3.heap.size, 1, none⟩) hkXS6 _
                have GZ' := G_XS7.out.cell2 (.slice xs s.1.length ys) (.slice us s.2.length vs) hap
                go_simp
                refine hK.out _ _ (At1.of hZ) (fun hHeld => ?_)
                clear hK K m0 m1 f0 f1
                refine wpAnyH_ready (rs := [14]) (by kernel_rfl) (by simp) ?_
                refine AllReadyH.cons rfl (fun K hK => ?_) AllReadyH.nil
                go_simp
                refine hK.out _ _ (At1.of hZ) (fun hHeld => ?_)
                clear hK K
                refine wpAnyH_done (by kernel_rfl) ?_ _
                go_simp
                refine hKK _ _ (Met.intro (hJ _ _ ?_))
                (repeat apply Exists.intro)
                exact ⟨⟨rfl, _, _, _, _, _, _, _, rfl, hkXS6, hsl, hBD, by simp, hap, CZ, GZ', hZ⟩, rfl⟩
            · go_simp
              have hXS8 : Below W.heap.size W (XS2.alloc (.cells #[.slice none 0 0, .slice none 0 0] 32)) := hXS2.alloc hXS2.size _
              have CKXS8 : Hid (Cells (XS2.alloc (.cells #[.slice none 0 0, .slice none 0 0] 32)) XS2.heap.size [.slice none 0 0, .slice none 0 0]) := Cells.new XS2 _ rfl _ _
              have hkXS8 : W.heap.size ≤ XS2.heap.size := hXS2.size
              have HV_XS8 : Hid (SK front W.heap.size (XS2.alloc (.cells #[.slice none 0 0, .slice none 0 0] 32)) (.slice a2 p.length d2) p) := SK.on HV_XS2.out (Keep.of ((Below.refl _ _).alloc (Nat.le_refl _) _))
              refine hK.out _ _ (At1.of hXS8) (fun hHeld => ?_)
              clear hK K
              generalize XS2.alloc (.cells #[.slice none 0 0, .slice none 0 0] 32) = XS8 at hXS8 CKXS8 HV_XS8  hHeld ⊢
              clear HV_XS2
              refine wpAnyH_ready (rs := [7]) (by kernel_rfl) (by simp) ?_
              refine AllReadyH.cons rfl (fun K hK => ?_) AllReadyH.nil
              go_simp
              refine (toState2 st lo y1 y2 z1 z2 h1 h2 XS8 (SI.on HI1.out (Keep.of (below_over hwW hXS8))) (SI.on HI2.out (Keep.of (below_over hwW hXS8)))).mono ?_
              rintro e XS9 ⟨p1, p2, rfl, hzXS9, hbXS9⟩
              have hXS9 : Below W.heap.size W XS9 := below_over hXS8 hbXS9
              have HV_XS9 : Hid (SK front W.heap.size XS9 (.slice a2 p.length d2) p) := SK.on HV_XS8.out (Keep.of hbXS9)
              have HS1_XS9 : Hid (SI true W.heap.size XS9 (.slice p1 st.length st.length) st) := SI.weak hzXS9.1.si hXS8.size
              have HS2_XS9 : Hid (SI true W.heap.size XS9 (.slice p2 lo.length lo.length) lo) := SI.weak hzXS9.2.1.si hXS8.size
              have CKXS9 : Hid (Cells XS9 XS2.heap.size [.slice none 0 0, .slice none 0 0]) := CKXS8.out.on hbXS9
              dsimp only
              refine hK.out _ _ (At1.of hXS9) (fun hHeld => ?_)
              clear hK K hbXS9 
              clear HV_XS8
              clear CKXS8
              refine wpAnyH_ready (rs := [8]) (by kernel_rfl) (by simp) ?_
              refine AllReadyH.cons rfl (fun K hK => ?_) AllReadyH.nil
              go_simp
              refine (HSF.out W.heap.size a2 d2 p1 p2 XS9 HV_XS9.out HS1_XS9.out HS2_XS9.out).mono ?_
              rintro e XS10 ⟨xs, ys, us, vs, rfl, hgXS10, hbXS10⟩
              have hXS10 : Below W.heap.size W XS10 := below_over hXS9 hbXS10
              have G_XS10 : Hid (StZ XS9.heap.size XS10.heap.size XS10 (.slice xs s.1.length ys) (.slice us s.2.length vs) s) := hgXS10
              have CKXS10 : Hid (Cells XS10 XS2.heap.size [.slice none 0 0, .slice none 0 0]) := CKXS9.out.on hbXS10
              have hap : XS2.heap.size < XS9.heap.size ∨ XS10.heap.size ≤ XS2.heap.size := .inl (cell_lt CKXS9.out.g0.1)
              have hsl : W.heap.size ≤ XS9.heap.size := hXS9.size
              have hBD : XS9.heap.size ≤ XS10.heap.size := hbXS10.size
              have hDY : XS10.heap.size ≤ XS10.heap.size := Nat.le_refl _
              dsimp only
              refine hK.out _ _ (At1.of hXS10) (fun hHeld => ?_)
              clear hK K hbXS10 
              clear HV_XS9 HS1_XS9 HS2_XS9
              clear CKXS9
              refine wpAnyH_take (i := 9) (v := ?_) rfl (by kernel_rfl) (by kernel_rfl) (by kernel_rfl) (fun _ _ _ h => h) (Or.inl ⟨by rfl, ?_⟩) hHeld ?_
              rotate_left 1
              · intro w' hSw
                obtain ⟨c0, c1, c2, c3, c4, c5⟩ := HWC.out _ hSw
                go_simp
                try with_reducible rfl
              simp only [Act.put, List.getElem_toArray, List.getElem_cons_zero, List.getElem_cons_succ]
              refine wpAnyH_take (i := 10) (v := ?_) rfl (by kernel_rfl) (by kernel_rfl) (by kernel_rfl) (fun _ _ _ h => h) (Or.inl ⟨by rfl, ?_⟩) hHeld ?_
              rotate_left 1
              · intro w' hSw
                obtain ⟨c0, c1, c2, c3, c4, c5⟩ := HWC.out _ hSw
                go_simp
                try with_reducible rfl
              simp only [Act.put, List.getElem_toArray, List.getElem_cons_zero, List.getElem_cons_succ]
              refine wpAnyH_take (i := 11) (v := ?_) rfl (by kernel_rfl) (by kernel_rfl) (by kernel_rfl) (fun _ _ _ h => h) (Or.inl ⟨by rfl, ?_⟩) hHeld ?_
              rotate_left 1
              · intro w' hSw
                obtain ⟨c0, c1, c2, c3, c4, c5⟩ := HWC.out _ hSw
                go_simp
                try with_reducible rfl
              simp only [Act.put, List.getElem_toArray, List.getElem_cons_zero, List.getElem_cons_succ]
              refine wpAnyH_ready (rs := [13]) (by kernel_rfl) (by simp) ?_
              refine AllReadyH.cons rfl (fun K hK => ?_) AllReadyH.nil
              obtain ⟨m0, f0⟩ := CKXS10.out.g0
              obtain ⟨m1, f1⟩ := CKXS10.out.g1
              have CZ := (CKXS10.out.s0 (.slice xs s.1.length ys)).s1 (.slice us s.2.length vs)
              have hZ : Below W.heap.size W ((XS10.setCell ⟨XS2.heap.size, 0, none⟩ (.slice xs s.1.length ys)).setCell ⟨XS2.heap.size, 1, none⟩ (.slice us s.2.length vs)) := (hXS10.setCell (p := ⟨XS2.heap.size, 0, none⟩) hkXS8 _).setCell (p := ⟨XS2.heap.size, 1, none⟩) hkXS8 _
              have GZ' := G_XS10.out.cell2 (.slice xs s.1.length ys) (.slice us s.2.length vs) hap
              go_simp
              refine hK.out _ _ (At1.of hZ) (fun hHeld => ?_)
              clear hK K m0 m1 f0 f1
              refine wpAnyH_ready (rs := [14]) (by kernel_rfl) (by simp) ?_
              refine AllReadyH.cons rfl (fun K hK => ?_) AllReadyH.nil
              go_simp
              refine hK.out _ _ (At1.of hZ) (fun hHeld => ?_)
              clear hK K
              refine wpAnyH_done (by kernel_rfl) ?_ _
              go_simp
              refine hKK _ _ (Met.intro (hJ _ _ ?_))
              (repeat apply Exists.intro)
              exact ⟨⟨rfl, _, _, _, _, _, _, _, rfl, hkXS8, hsl, hBD, by simp, hap, CZ, GZ', hZ⟩, rfl⟩
          · go_simp
            have hXS11 : Below W.heap.size W (XS1.alloc (.cells #[.slice none 0 0, .slice none 0 0] 32)) := hXS1.alloc hXS1.size _
            have CKXS11 : Hid (Cells (XS1.alloc (.cells #[.slice none 0 0, .slice none 0 0] 32)) XS1.heap.size [.slice none 0 0, .slice none 0 0]) := Cells.new XS1 _ rfl _ _
            have hkXS11 : W.heap.size ≤ XS1.heap.size := hXS1.size
            have HV_XS11 : Hid (SK front W.heap.size (XS1.alloc (.cells #[.slice none 0 0, .slice none 0 0] 32)) (.slice a2 p.length d2) p) := SK.on HV_XS1.out (Keep.of ((Below.refl _ _).alloc (Nat.le_refl _) _))
            refine hK.out _ _ (At1.of hXS11) (fun hHeld => ?_)
            clear hK K
            generalize XS1.alloc (.cells #[.slice none 0 0, .slice none 0 0] 32) = XS11 at hXS11 CKXS11 HV_XS11  hHeld ⊢
            clear HV_XS1
            refine wpAnyH_ready (rs := [5]) (by kernel_rfl) (by simp) ?_
            refine AllReadyH.cons rfl (fun K hK => ?_) AllReadyH.nil
            go_simp
            refine (St.toInsn i.1 i.2.1 i.2.2 XS11).mono ?_
            rintro e XS12 ⟨rfl, hbXS12⟩
            have hXS12 : Below W.heap.size W XS12 := below_over hXS11 hbXS12
            have HV_XS12 : Hid (SK front W.heap.size XS12 (.slice a2 p.length d2) p) := SK.on HV_XS11.out (Keep.of hbXS12)
            have CKXS12 : Hid (Cells XS12 XS1.heap.size [.slice none 0 0, .slice none 0 0]) := CKXS11.out.on hbXS12
            dsimp only
            refine hK.out _ _ (At1.of hXS12) (fun hHeld => ?_)
            clear hK K hbXS12 
            clear HV_XS11
            clear CKXS11
            refine wpAnyH_ready (rs := [7]) (by kernel_rfl) (by simp) ?_
            refine AllReadyH.cons rfl (fun K hK => ?_) AllReadyH.nil
            go_simp
            refine (toState2 st lo y1 y2 z1 z2 h1 h2 XS12 (SI.on HI1.out (Keep.of (below_over hwW hXS12))) (SI.on HI2.out (Keep.of (below_over hwW hXS12)))).mono ?_
            rintro e XS13 ⟨p1, p2, rfl, hzXS13, hbXS13⟩
            have hXS13 : Below W.heap.size W XS13 := below_over hXS12 hbXS13
            have HV_XS13 : Hid (SK front W.heap.size XS13 (.slice a2 p.length d2) p) := SK.on HV_XS12.out (Keep.of hbXS13)
            have HS1_XS13 : Hid (SI true W.heap.size XS13 (.slice p1 st.length st.length) st) := SI.weak hzXS13.1.si hXS12.size
            have HS2_XS13 : Hid (SI true W.heap.size XS13 (.slice p2 lo.length lo.length) lo) := SI.weak hzXS13.2.1.si hXS12.size
            have CKXS13 : Hid (Cells XS13 XS1.heap.size [.slice none 0 0, .slice none 0 0]) := CKXS12.out.on hbXS13
            dsimp only
            refine hK.out _ _ (At1.of hXS13) (fun hHeld => ?_)
            clear hK K hbXS13 
            clear HV_XS12
            clear CKXS12
            refine wpAnyH_ready (rs := [8]) (by kernel_rfl) (by simp) ?_
            refine AllReadyH.cons rfl (fun K hK => ?_) AllReadyH.nil
            go_simp
            refine (HSF.out W.heap.size a2 d2 p1 p2 XS13 HV_XS13.out HS1_XS13.out HS2_XS13.out).mono ?_
            rintro e XS14 ⟨xs, ys, us, vs, rfl, hgXS14, hbXS14⟩
            have hXS14 : Below W.heap.size W XS14 := below_over hXS13 hbXS14
            have G_XS14 : Hid (StZ XS13.heap.size XS14.heap.size XS14 (.slice xs s.1.length ys) (.slice us s.2.length vs) s) := hgXS14
            have CKXS14 : Hid (Cells XS14 XS1.heap.size [.slice none 0 0, .slice none 0 0]) := CKXS13.out.on hbXS14
            have hap : XS1.heap.size < XS13.heap.size ∨ XS14.heap.size ≤ XS1.heap.size := .inl (cell_lt CKXS13.out.g0.1)
            have hsl : W.heap.size ≤ XS13.heap.size := hXS13.size
            have hBD : XS13.heap.size ≤ XS14.heap.size := hbXS14.size
            have hDY : XS14.heap.size ≤ XS14.heap.size := Nat.le_refl _
            dsimp only
            refine hK.out _ _ (At1.of hXS14) (fun hHeld => ?_)
            clear hK K hbXS14 
            clear HV_XS13 HS1_XS13 HS2_XS13
            clear CKXS13
            refine wpAnyH_take (i := 9) (v := ?_) rfl (by kernel_rfl) (by kernel_rfl) (by kernel_rfl) (fun _ _ _ h => h) (Or.inl ⟨by rfl, ?_⟩) hHeld ?_
            rotate_left 1
            · intro w' hSw
              obtain ⟨c0, c1, c2, c3, c4, c5⟩ := HWC.out _ hSw
              go_simp
              try with_reducible rfl
            simp only [Act.put, List.getElem_toArray, List.getElem_cons_zero, List.getElem_cons_succ]
            refine wpAnyH_take (i := 10) (v := ?_) rfl (by kernel_rfl) (by kernel_rfl) (by kernel_rfl) (fun _ _ _ h => h) (Or.inl ⟨by rfl, ?_⟩) hHeld ?_
            rotate_left 1
            · intro w' hSw
              obtain ⟨c0, c1, c2, c3, c4, c5⟩ := HWC.out _ hSw
              go_simp
              try with_reducible rfl
            simp only [Act.put, List.getElem_toArray, List.getElem_cons_zero, List.getElem_cons_succ]
            refine wpAnyH_take (i := 11) (v := ?_) rfl (by kernel_rfl) (by kernel_rfl) (by kernel_rfl) (fun _ _ _ h => h) (Or.inl ⟨by rfl, ?_⟩) hHeld ?_
            rotate_left 1
            · intro w' hSw
              obtain ⟨c0, c1, c2, c3, c4, c5⟩ := HWC.out _ hSw
              go_simp
              try with_reducible rfl
            simp only [Act.put, List.getElem_toArray, List.getElem_cons_zero, List.getElem_cons_succ]
            refine wpAnyH_ready (rs := [13]) (by kernel_rfl) (by simp) ?_
            refine AllReadyH.cons rfl (fun K hK => ?_) AllReadyH.nil
            obtain ⟨m0, f0⟩ := CKXS14.out.g0
            obtain ⟨m1, f1⟩ := CKXS14.out.g1
            have CZ := (CKXS14.out.s0 (.slice xs s.1.length ys)).s1 (.slice us s.2.length vs)
            have hZ : Below W.heap.size W ((XS14.setCell ⟨XS1.heap.size, 0, none⟩ (.slice xs s.1.length ys)).setCell ⟨XS1.heap.size, 1, none⟩ (.slice us s.2.length vs)) := (hXS14.setCell (p := ⟨XS1.heap.size, 0, none⟩) hkXS11 _).setCell (p := ⟨XS1.heap.size, 1, none⟩) hkXS11 _
            have GZ' := G_XS14.out.cell2 (.slice xs s.1.length ys) (.slice us s.2.length vs) hap
            go_simp
            refine hK.out _ _ (At1.of hZ) (fun hHeld => ?_)
            clear hK K m0 m1 f0 f1
            refine wpAnyH_ready (rs := [14]) (by kernel_rfl) (by simp) ?_
            refine AllReadyH.cons rfl (fun K hK => ?_) AllReadyH.nil
            go_simp
            refine hK.out _ _ (At1.of hZ) (fun hHeld => ?_)
            clear hK K
            refine wpAnyH_done (by kernel_rfl) ?_ _
            go_simp
            refine hKK _ _ (Met.intro (hJ _ _ ?_))
            (repeat apply Exists.intro)
            exact ⟨⟨rfl, _, _, _, _, _, _, _, rfl, hkXS11, hsl, hBD, by simp, hap, CZ, GZ', hZ⟩, rfl⟩
        · go_simp
          have hXS15 : Below W.heap.size W (Q0.alloc (.cells #[.slice none 0 0, .slice none 0 0] 32)) := hD0.alloc hD0.size _
          have CKXS15 : Hid (Cells (Q0.alloc (.cells #[.slice none 0 0, .slice none 0 0] 32)) Q0.heap.size [.slice none 0 0, .slice none 0 0]) := Cells.new Q0 _ rfl _ _
          have hkXS15 : W.heap.size ≤ Q0.heap.size := hD0.size
          refine hK.out _ _ (At1.of hXS15) (fun hHeld => ?_)
          clear hK K
          generalize Q0.alloc (.cells #[.slice none 0 0, .slice none 0 0] 32) = XS15 at hXS15 CKXS15   hHeld ⊢
          refine wpAnyH_ready (rs := [1]) (by kernel_rfl) (by simp) ?_
          refine AllReadyH.cons rfl (fun K hK => ?_) AllReadyH.nil
          go_simp
          refine (toProgram p a cap HSM.out XS15 (SK.on HIN.out (Keep.of (below_over hwW hXS15)))).mono ?_
          rintro e XS16 ⟨vXS16, rfl, hvXS16, hbXS16⟩
          obtain ⟨a2, d2, rfl⟩ := hvXS16.form
          have hXS16 : Below W.heap.size W XS16 := below_over hXS15 hbXS16
          have HV_XS16 : Hid (SK front W.heap.size XS16 (.slice a2 p.length d2) p) := SK.weak hvXS16 hXS15.size
          have CKXS16 : Hid (Cells XS16 Q0.heap.size [.slice none 0 0, .slice none 0 0]) := CKXS15.out.on hbXS16
          dsimp only
          refine hK.out _ _ (At1.of hXS16) (fun hHeld => ?_)
          clear hK K hbXS16 
          clear CKXS15
          refine wpAnyH_ready (rs := [5]) (by kernel_rfl) (by simp) ?_
          refine AllReadyH.cons rfl (fun K hK => ?_) AllReadyH.nil
          go_simp
          refine (St.toInsn i.1 i.2.1 i.2.2 XS16).mono ?_
          rintro e XS17 ⟨rfl, hbXS17⟩
          have hXS17 : Below W.heap.size W XS17 := below_over hXS16 hbXS17
          have HV_XS17 : Hid (SK front W.heap.size XS17 (.slice a2 p.length d2) p) := SK.on HV_XS16.out (Keep.of hbXS17)
          have CKXS17 : Hid (Cells XS17 Q0.heap.size [.slice none 0 0, .slice none 0 0]) := CKXS16.out.on hbXS17
          dsimp only
          refine hK.out _ _ (At1.of hXS17) (fun hHeld => ?_)
          clear hK K hbXS17 
          clear HV_XS16
          clear CKXS16
          refine wpAnyH_ready (rs := [7]) (by kernel_rfl) (by simp) ?_
          refine AllReadyH.cons rfl (fun K hK => ?_) AllReadyH.nil
          go_simp
          refine (toState2 st lo y1 y2 z1 z2 h1 h2 XS17 (SI.on HI1.out (Keep.of (below_over hwW hXS17))) (SI.on HI2.out (Keep.of (below_over hwW hXS17)))).mono ?_
          rintro e XS18 ⟨p1, p2, rfl, hzXS18, hbXS18⟩
          have hXS18 : Below W.heap.size W XS18 := below_over hXS17 hbXS18
          have HV_XS18 : Hid (SK front W.heap.size XS18 (.slice a2 p.length d2) p) := SK.on HV_XS17.out (Keep.of hbXS18)
          have HS1_XS18 : Hid (SI true W.heap.size XS18 (.slice p1 st.length st.length) st) := SI.weak hzXS18.1.si hXS17.size
          have HS2_XS18 : Hid (SI true W.heap.size XS18 (.slice p2 lo.length lo.length) lo) := SI.weak hzXS18.2.1.si hXS17.size
          have CKXS18 : Hid (Cells XS18 Q0.heap.size [.slice none 0 0, .slice none 0 0]) := CKXS17.out.on hbXS18
          dsimp only
          refine hK.out _ _ (At1.of hXS18) (fun hHeld => ?_)
          clear hK K hbXS18 
          clear HV_XS17
          clear CKXS17
          refine wpAnyH_ready (rs := [8]) (by kernel_rfl) (by simp) ?_
          refine AllReadyH.cons rfl (fun K hK => ?_) AllReadyH.nil
          go_simp
          refine (HSF.out W.heap.size a2 d2 p1 p2 XS18 HV_XS18.out HS1_XS18.out HS2_XS18.out).mono ?_
          rintro e XS19 ⟨xs, ys, us, vs, rfl, hgXS19, hbXS19⟩
          have hXS19 : Below W.heap.size W XS19 := below_over hXS18 hbXS19
          have G_XS19 : Hid (StZ XS18.heap.size XS19.heap.size XS19 (.slice xs s.1.length ys) (.slice us s.2.length vs) s) := hgXS19
          have CKXS19 : Hid (Cells XS19 Q0.heap.size [.slice none 0 0, .slice none 0 0]) := CKXS18.out.on hbXS19
          have hap : Q0.heap.size < XS18.heap.size ∨ XS19.heap.size ≤ Q0.heap.size := .inl (cell_lt CKXS18.out.g0.1)
          have hsl : W.heap.size ≤ XS18.heap.size := hXS18.size
          have hBD : XS18.heap.size ≤ XS19.heap.size := hbXS19.size
          have hDY : XS19.heap.size ≤ XS19.heap.size := Nat.le_refl _
          dsimp only
          refine hK.out _ _ (At1.of hXS19) (fun hHeld => ?_)
          clear hK K hbXS19 
          clear HV_XS18 HS1_XS18 HS2_XS18
          clear CKXS18
          refine wpAnyH_take (i := 9) (v := ?_) rfl (by kernel_rfl) (by kernel_rfl) (by kernel_rfl) (fun _ _ _ h => h) (Or.inl ⟨by rfl, ?_⟩) hHeld ?_
          rotate_left 1
          · intro w' hSw
            obtain ⟨c0, c1, c2, c3, c4, c5⟩ := HWC.out _ hSw
            go_simp
            try with_reducible rfl
          simp only [Act.put, List.getElem_toArray, List.getElem_cons_zero, List.getElem_cons_succ]
          refine wpAnyH_take (i := 10) (v := ?_) rfl (by kernel_rfl) (by kernel_rfl) (by kernel_rfl) (fun _ _ _ h => h) (Or.inl ⟨by rfl, ?_⟩) hHeld ?_
          rotate_left 1
          · intro w' hSw
            obtain ⟨c0, c1, c2, c3, c4, c5⟩ := HWC.out _ hSw
            go_simp
            try with_reducible rfl
          simp only [Act.put, List.getElem_toArray, List.getElem_cons_zero, List.getElem_cons_succ]
          refine wpAnyH_take (i := 11) (v := ?_) rfl (by kernel_rfl) (by kernel_rfl) (by kernel_rfl) (fun _ _ _ h => h) (Or.inl ⟨by rfl, ?_⟩) hHeld ?_
          rotate_left 1
          · intro w' hSw
            obtain ⟨c0, c1, c2, c3, c4, c5⟩ := HWC.out _ hSw
            go_simp
            try with_reducible rfl
          simp only [Act.put, List.getElem_toArray, List.getElem_cons_zero, List.getElem_cons_succ]
          refine wpAnyH_ready (rs := [13]) (by kernel_rfl) (by simp) ?_
          refine AllReadyH.cons rfl (fun K hK => ?_) AllReadyH.nil
          obtain ⟨m0, f0⟩ := CKXS19.out.g0
          obtain ⟨m1, f1⟩ := CKXS19.out.g1
          have CZ := (CKXS19.out.s0 (.slice xs s.1.length ys)).s1 (.slice us s.2.length vs)
          have hZ : Below W.heap.size W ((XS19.setCell ⟨Q0.heap.size, 0, none⟩ (.slice xs s.1.length ys)).setCell ⟨Q0.heap.size, 1, none⟩ (.slice us s.2.length vs)) := (hXS19.setCell (p := ⟨Q0.heap.size, 0, none⟩) hkXS15 _).setCell (p := ⟨Q0.heap.size, 1, none⟩) hkXS15 _
          have GZ' := G_XS19.out.cell2 (.slice xs s.1.length ys) (.slice us s.2.length vs) hap
          go_simp
          refine hK.out _ _ (At1.of hZ) (fun hHeld => ?_)
          clear hK K m0 m1 f0 f1
          refine wpAnyH_ready (rs := [14]) (by kernel_rfl) (by simp) ?_
          refine AllReadyH.cons rfl (fun K hK => ?_) AllReadyH.nil
          go_simp
          refine hK.out _ _ (At1.of hZ) (fun hHeld => ?_)
          clear hK K
          refine wpAnyH_done (by kernel_rfl) ?_ _
          go_simp
          refine hKK _ _ (Met.intro (hJ _ _ ?_))
          (repeat apply Exists.intro)
          exact ⟨⟨rfl, _, _, _, _, _, _, _, rfl, hkXS15, hsl, hBD, by simp, hap, CZ, GZ', hZ⟩, rfl⟩
      case rest =>
        obtain ⟨rfl, kS, BS, DS, xs, ys, us, vs, rfl, hkS0, hBS0, hBDS, hDS, hapS, hcS, hgS, hbS⟩ := hcut
        rename World => U3
        have hW3 : Below W.heap.size W U3 := hbS
        have hw3 : Below w.heap.size w U3 := below_over hwW hW3
        have BS3 : Hid (Cells U3 kS [.slice xs s.1.length ys, .slice us s.2.length vs]) := hcS
        have GS3 : Hid (StZ BS DS U3 (.slice xs s.1.length ys) (.slice us s.2.length vs) s) := hgS
        have hkS : kS < U3.heap.size := cell_lt hcS.g0.1
        have hzW : W.heap.size ≤ U3.heap.size := hW3.size
        have hzw : w.heap.size ≤ U3.heap.size := hw3.size
        obtain ⟨c3, _⟩ := (L0.out.on hW3).g0
        clear hcS hgS hbS hapS hW1 hW2 HWC HSF hkS0 hBS0 hM0
        go_wp2_with fail
        refine (toProgram p a cap HSM.out U3 (SK.on HIN.out (Keep.of hw3))).mono ?_
        rintro e w4 ⟨v4, rfl, hv4, hb4⟩
        obtain ⟨a4, d4, rfl⟩ := hv4.form
        have SH4 : Hid (ShK U3.heap.size w4.heap.size w4 (.slice a4 p.length d4) p) := shK_of hv4
        obtain ⟨W5, hW5e⟩ : ∃ W5, W5 = w4.alloc (.cells #[.slice a4 p.length d4] 37) := ⟨_, rfl⟩
        have hb45 : Below w4.heap.size w4 W5 := by rw [hW5e]; exact (Below.refl _ _).alloc (Nat.le_refl _) _
        have HZ5 : Hid (W5.heap.size = w4.heap.size + 1) := by show _ = _; rw [hW5e]; simp
        have hb35 : Below U3.heap.size U3 W5 := below_over hb4 hb45
        have X05 : Hid (Cells W5 w4.heap.size [.slice a4 p.length d4]) := by rw [hW5e]; exact Cells.new w4 _ rfl _ _
        have HV5 : Hid (SK front U3.heap.size W5 (.slice a4 p.length d4) p) := SK.on hv4 (Keep.of hb45)
        have SH5 : Hid (ShK U3.heap.size w4.heap.size W5 (.slice a4 p.length d4) p) := SH4.out.mrk (Mrk.of hb45)
        have hz34 : U3.heap.size ≤ w4.heap.size := hb4.size
        have hw5 : Below w.heap.size w W5 := below_over hw3 hb35
        have hW5 : Below W.heap.size W W5 := below_over hW3 hb35
        have BS5 : Hid (Cells W5 kS [.slice xs s.1.length ys, .slice us s.2.length vs]) := BS3.out.on hb35
        have GS5 : Hid (StZ BS DS W5 (.slice xs s.1.length ys) (.slice us s.2.length vs) s) := GS3.out.on hb35
        clear BS3 GS3 hw3 hW3
        obtain ⟨s0, _⟩ := (L2.out.on hW5).g0
        obtain ⟨s1, _⟩ := (L2.out.on hW5).g1
        clear hb4 hv4 c3 hb45 SH4 hb35
        rw [hW5e] at s0 s1
        go_wp2_with fail
        rw [← hW5e]
        clear s0 s1 hW5e
        refine (toState2 st lo y1 y2 z1 z2 h1 h2 W5 (SI.on HI1.out (Keep.of hw5)) (SI.on HI2.out (Keep.of hw5))).mono ?_
        rintro e wA ⟨r1, r2, rfl, hzA, hbA⟩
        obtain ⟨WB, hWBe⟩ : ∃ WB, WB = wA.alloc (.cells #[.slice r1 st.length st.length, .slice r2 lo.length lo.length] 32) := ⟨_, rfl⟩
        have hbAB : Below wA.heap.size wA WB := by rw [hWBe]; exact (Below.refl _ _).alloc (Nat.le_refl _) _
        have HZB : Hid (WB.heap.size = wA.heap.size + 1) := by show _ = _; rw [hWBe]; simp
        have hb5B : Below W5.heap.size W5 WB := below_over hbA hbAB
        have hz5A : W5.heap.size ≤ wA.heap.size := hbA.size
        have X4B : Hid (Cells WB wA.heap.size [.slice r1 st.length st.length, .slice r2 lo.length lo.length]) := by rw [hWBe]; exact Cells.new wA _ rfl _ _
        have GXB : Hid (StZ W5.heap.size wA.heap.size WB (.slice r1 st.length st.length) (.slice r2 lo.length lo.length) (st, lo)) := hzA.on hbAB
        have HR1 : Hid (SI true U3.heap.size WB (.slice r1 st.length st.length) st) := SI.weak GXB.out.1.si (by have := HZ5.out; omega)
        have HR2 : Hid (SI true U3.heap.size WB (.slice r2 lo.length lo.length) lo) := SI.weak GXB.out.2.1.si (by have := HZ5.out; omega)
        have hwB : Below w.heap.size w WB := below_over hw5 hb5B
        have hWB : Below W.heap.size W WB := below_over hW5 hb5B
        have BSB : Hid (Cells WB kS [.slice xs s.1.length ys, .slice us s.2.length vs]) := BS5.out.on hb5B
        have GSB : Hid (StZ BS DS WB (.slice xs s.1.length ys) (.slice us s.2.length vs) s) := GS5.out.on hb5B
        have X0B : Hid (Cells WB w4.heap.size [.slice a4 p.length d4]) := X05.out.on hb5B
        have HVB : Hid (SK front U3.heap.size WB (.slice a4 p.length d4) p) := SK.on HV5.out (Keep.of hb5B)
        have SHB : Hid (ShK U3.heap.size w4.heap.size WB (.slice a4 p.length d4) p) := SH5.out.mrk (Mrk.of hb5B)
        clear BS5 GS5 X05 HV5 SH5 hw5 hW5
        clear hbA hzA hbAB hb5B
        have HWC : Hid (∀ y, At1 WB WB.heap.size y → y.cell? ⟨w4.heap.size, 0, none⟩ = some (.slice a4 p.length d4) ∧ y.cell? ⟨w.heap.size + 1, 0, none⟩ = some (.int .i64 i.1) ∧ y.cell? ⟨w.heap.size + 1, 1, none⟩ = some (.int .i64 i.2.1) ∧ y.cell? ⟨w.heap.size + 1, 2, none⟩ = some (.int .i64 i.2.2) ∧ y.cell? ⟨wA.heap.size, 0, none⟩ = some (.slice r1 st.length st.length) ∧ y.cell? ⟨wA.heap.size, 1, none⟩ = some (.slice r2 lo.length lo.length)) := fun y hy => ⟨hy _ _ _ (Nat.ne_of_lt (cell_lt (X0B.out.g0.1))) (cell_lt (X0B.out.g0.1)) (X0B.out.g0.1), hy _ _ _ (Nat.ne_of_lt (cell_lt ((L1.out.on hWB).g0.1))) (cell_lt ((L1.out.on hWB).g0.1)) ((L1.out.on hWB).g0.1), hy _ _ _ (Nat.ne_of_lt (cell_lt ((L1.out.on hWB).g1.1))) (cell_lt ((L1.out.on hWB).g1.1)) ((L1.out.on hWB).g1.1), hy _ _ _ (Nat.ne_of_lt (cell_lt ((L1.out.on hWB).g2.1))) (cell_lt ((L1.out.on hWB).g2.1)) ((L1.out.on hWB).g2.1), hy _ _ _ (Nat.ne_of_lt (cell_lt (X4B.out.g0.1))) (cell_lt (X4B.out.g0.1)) (X4B.out.g0.1), hy _ _ _ (Nat.ne_of_lt (cell_lt (X4B.out.g1.1))) (cell_lt (X4B.out.g1.1)) (X4B.out.g1.1)⟩
        go_wp2_with fail
        rw [← hWBe]
        clear hWBe
        go_cut [16, 17] (fun v b y => b = .bool q ∧ Got2 WB s v y)
        case first =>
          rename_i J KK hJ hKK
          have hD0 : Below WB.heap.size WB WB.drew := (Below.refl _ _).drew
          refine wp_region_held_drew (S := At1 WB WB.heap.size) (by kernel_rfl) (At1.of hD0) (fun hHeld => ?_)
          generalize WB.drew = Q0 at hD0 hHeld ⊢
          refine wpAnyH_take (i := 0) (v := ?_) rfl (by kernel_rfl) (by kernel_rfl) (by kernel_rfl) (fun _ _ _ h => h) (Or.inl ⟨by rfl, ?_⟩) hHeld ?_
          rotate_left 1
          · intro w' hSw
            obtain ⟨c0, c1, c2, c3, c4, c5⟩ := HWC.out _ hSw
            go_simp
            try with_reducible rfl
          simp only [Act.put, List.getElem_toArray, List.getElem_cons_zero]
          refine wpAnyH_take (i := 1) (v := ?_) rfl (by kernel_rfl) (by kernel_rfl) (by kernel_rfl) (fun _ _ _ h => h) (Or.inl ⟨by rfl, ?_⟩) hHeld ?_
          rotate_left 1
          · intro w' hSw
            obtain ⟨c0, c1, c2, c3, c4, c5⟩ := HWC.out _ hSw
            go_simp
            try with_reducible rfl
          simp only [Act.put, List.getElem_toArray, List.getElem_cons_zero, List.getElem_cons_succ]
          refine wpAnyH_take (i := 2) (v := ?_) rfl (by kernel_rfl) (by kernel_rfl) (by kernel_rfl) (fun _ _ _ h => h) (Or.inl ⟨by rfl, ?_⟩) hHeld ?_
          rotate_left 1
          · intro w' hSw
            obtain ⟨c0, c1, c2, c3, c4, c5⟩ := HWC.out _ hSw
            go_simp
            try with_reducible rfl
          simp only [Act.put, List.getElem_toArray, List.getElem_cons_zero, List.getElem_cons_succ]
          refine wpAnyH_take (i := 3) (v := ?_) rfl (by kernel_rfl) (by kernel_rfl) (by kernel_rfl) (fun _ _ _ h => h) (Or.inl ⟨by rfl, ?_⟩) hHeld ?_
          rotate_left 1
          · intro w' hSw
            obtain ⟨c0, c1, c2, c3, c4, c5⟩ := HWC.out _ hSw
            go_simp
            try with_reducible rfl
          simp only [Act.put, List.getElem_toArray, List.getElem_cons_zero, List.getElem_cons_succ]
          refine wpAnyH_take (i := 5) (v := ?_) rfl (by kernel_rfl) (by kernel_rfl) (by kernel_rfl) (fun _ _ _ h => h) (Or.inl ⟨by rfl, ?_⟩) hHeld ?_
          rotate_left 1
          · intro w' hSw
            obtain ⟨c0, c1, c2, c3, c4, c5⟩ := HWC.out _ hSw
            go_simp
            try with_reducible rfl
          simp only [Act.put, List.getElem_toArray, List.getElem_cons_zero, List.getElem_cons_succ]
          refine wpAnyH_ready (rs := [4, 10]) (by kernel_rfl) (by simp) ?_
          refine AllReadyH.cons rfl (fun K hK => ?_) (AllReadyH.cons rfl (fun K hK => ?_) AllReadyH.nil)
          · go_simp
            refine (St.toInsn i.1 i.2.1 i.2.2 Q0).mono ?_
            rintro e XI1 ⟨rfl, hbXI1⟩
            have hXI1 : Below WB.heap.size WB XI1 := below_over hD0 hbXI1
            dsimp only
            refine hK.out _ _ (At1.of hXI1) (fun hHeld => ?_)
            clear hK K hbXI1 
            refine wpAnyH_ready (rs := [6, 10]) (by kernel_rfl) (by simp) ?_
            refine AllReadyH.cons rfl (fun K hK => ?_) (AllReadyH.cons rfl (fun K hK => ?_) AllReadyH.nil)
            · go_simp
              refine (HIF.out U3.heap.size a4 d4 r1 r2 XI1 (below_over hwB hXI1) (SK.on HVB.out (Keep.of hXI1)) (SI.on HR1.out (Keep.of hXI1)) (SI.on HR2.out (Keep.of hXI1))).mono ?_
              rintro e XI2 ⟨xi, yi, ui, vi, rfl, hgXI2, hbXI2⟩
              have hXI2 : Below WB.heap.size WB XI2 := below_over hXI1 hbXI2
              have G_XI2 : Hid (StZ XI1.heap.size XI2.heap.size XI2 (.slice xi s.1.length yi) (.slice ui s.2.length vi) s) := hgXI2
              have hsl : WB.heap.size ≤ XI1.heap.size := hXI1.size
              have hBD : XI1.heap.size ≤ XI2.heap.size := hbXI2.size
              have hDY : XI2.heap.size ≤ XI2.heap.size := Nat.le_refl _
              dsimp only
              refine hK.out _ _ (At1.of hXI2) (fun hHeld => ?_)
              clear hK K hbXI2 
              refine wpAnyH_take (i := 7) (v := ?_) rfl (by kernel_rfl) (by kernel_rfl) (by kernel_rfl) (fun _ _ _ h => h) (Or.inl ⟨by rfl, ?_⟩) hHeld ?_
              rotate_left 1
              · intro w' hSw
                obtain ⟨c0, c1, c2, c3, c4, c5⟩ := HWC.out _ hSw
                go_simp
                try with_reducible rfl
              simp only [Act.put, List.getElem_toArray, List.getElem_cons_zero, List.getElem_cons_succ]
              refine wpAnyH_take (i := 8) (v := ?_) rfl (by kernel_rfl) (by kernel_rfl) (by kernel_rfl) (fun _ _ _ h => h) (Or.inl ⟨by rfl, ?_⟩) hHeld ?_
              rotate_left 1
              · intro w' hSw
                obtain ⟨c0, c1, c2, c3, c4, c5⟩ := HWC.out _ hSw
                go_simp
                try with_reducible rfl
              simp only [Act.put, List.getElem_toArray, List.getElem_cons_zero, List.getElem_cons_succ]
              refine wpAnyH_take (i := 9) (v := ?_) rfl (by kernel_rfl) (by kernel_rfl) (by kernel_rfl) (fun _ _ _ h => h) (Or.inl ⟨by rfl, ?_⟩) hHeld ?_
              rotate_left 1
              · intro w' hSw
                obtain ⟨c0, c1, c2, c3, c4, c5⟩ := HWC.out _ hSw
                go_simp
                try with_reducible rfl
              simp only [Act.put, List.getElem_toArray, List.getElem_cons_zero, List.getElem_cons_succ]
              refine wpAnyH_ready (rs := [10]) (by kernel_rfl) (by simp) ?_
              refine AllReadyH.cons rfl (fun K hK => ?_) AllReadyH.nil
              go_simp
              have hXI3 : Below WB.heap.size WB (XI2.alloc (.cells #[.slice none 0 0, .slice none 0 0] 32)) := hXI2.alloc hXI2.size _
              have CKXI3 : Hid (Cells (XI2.alloc (.cells #[.slice none 0 0, .slice none 0 0] 32)) XI2.heap.size [.slice none 0 0, .slice none 0 0]) := Cells.new XI2 _ rfl _ _
              have hkXI3 : WB.heap.size ≤ XI2.heap.size := hXI2.size
              clear hDY
              have hDY : XI2.heap.size ≤ (XI2.alloc (.cells #[.slice none 0 0, .slice none 0 0] 32)).heap.size := by simp
              have G_XI3 : Hid (StZ XI1.heap.size XI2.heap.size (XI2.alloc (.cells #[.slice none 0 0, .slice none 0 0] 32)) (.slice xi s.1.length yi) (.slice ui s.2.length vi) s) := (G_XI2.out).on ((Below.refl _ _).alloc (Nat.le_refl _) _)
              refine hK.out _ _ (At1.of hXI3) (fun hHeld => ?_)
              clear hK K
              generalize XI2.alloc (.cells #[.slice none 0 0, .slice none 0 0] 32) = XI3 at hXI3 CKXI3 G_XI3 hDY hHeld ⊢
              clear G_XI2
              have hap : XI2.heap.size < XI1.heap.size ∨ XI2.heap.size ≤ XI2.heap.size := .inr (Nat.le_refl _)
              refine wpAnyH_ready (rs := [11]) (by kernel_rfl) (by simp) ?_
              refine AllReadyH.cons rfl (fun K hK => ?_) AllReadyH.nil
              obtain ⟨m0, f0⟩ := CKXI3.out.g0
              obtain ⟨m1, f1⟩ := CKXI3.out.g1
              have CZ := (CKXI3.out.s0 (.slice xi s.1.length yi)).s1 (.slice ui s.2.length vi)
              have hZ : Below WB.heap.size WB ((XI3.setCell ⟨XI2.heap.size, 0, none⟩ (.slice xi s.1.length yi)).setCell ⟨XI2.heap.size, 1, none⟩ (.slice ui s.2.length vi)) := (hXI3.setCell (p := ⟨XI2.heap.size, 0, none⟩) hkXI3 _).setCell (p := ⟨XI2.heap.size, 1, none⟩) hkXI3 _
              have GZ' := G_XI3.out.cell2 (.slice xi s.1.length yi) (.slice ui s.2.length vi) hap
              go_simp
              refine hK.out _ _ (At1.of hZ) (fun hHeld => ?_)
              clear hK K m0 m1 f0 f1
              refine wpAnyH_ready (rs := [12]) (by kernel_rfl) (by simp) ?_
              refine AllReadyH.cons rfl (fun K hK => ?_) AllReadyH.nil
              go_simp
              refine hK.out _ _ (At1.of hZ) (fun hHeld => ?_)
              clear hK K
              refine wpAnyH_done (by kernel_rfl) ?_ _
              go_simp
              refine hKK _ _ (Met.intro (hJ _ _ ?_))
              (repeat apply Exists.intro)
              exact ⟨⟨rfl, _, _, _, _, _, _, _, rfl, hkXI3, hsl, hBD, by simpa using hDY, hap, CZ, GZ', hZ⟩, rfl⟩
            · go_simp
              have hXI4 : Below WB.heap.size WB (XI1.alloc (.cells #[.slice none 0 0, .slice none 0 0] 32)) := hXI1.alloc hXI1.size _
              have CKXI4 : Hid (Cells (XI1.alloc (.cells #[.slice none 0 0, .slice none 0 0] 32)) XI1.heap.size [.slice none 0 0, .slice none 0 0]) := Cells.new XI1 _ rfl _ _
              have hkXI4 : WB.heap.size ≤ XI1.heap.size := hXI1.size
              refine hK.out _ _ (At1.of hXI4) (fun hHeld => ?_)
              clear hK K
              generalize XI1.alloc (.cells #[.slice none 0 0, .slice none 0 0] 32) = XI4 at hXI4 CKXI4   hHeld ⊢
              refine wpAnyH_ready (rs := [6]) (by kernel_rfl) (by simp) ?_
              refine AllReadyH.cons rfl (fun K hK => ?_) AllReadyH.nil
              go_simp
              refine (HIF.out U3.heap.size a4 d4 r1 r2 XI4 (below_over hwB hXI4) (SK.on HVB.out (Keep.of hXI4)) (SI.on HR1.out (Keep.of hXI4)) (SI.on HR2.out (Keep.of hXI4))).mono ?_
              rintro e XI5 ⟨xi, yi, ui, vi, rfl, hgXI5, hbXI5⟩
              have hXI5 : Below WB.heap.size WB XI5 := below_over hXI4 hbXI5
              have G_XI5 : Hid (StZ XI4.heap.size XI5.heap.size XI5 (.slice xi s.1.length yi) (.slice ui s.2.length vi) s) := hgXI5
              have CKXI5 : Hid (Cells XI5 XI1.heap.size [.slice none 0 0, .slice none 0 0]) := CKXI4.out.on hbXI5
              have hap : XI1.heap.size < XI4.heap.size ∨ XI5.heap.size ≤ XI1.heap.size := .inl (cell_lt CKXI4.out.g0.1)
              have hsl : WB.heap.size ≤ XI4.heap.size := hXI4.size
              have hBD : XI4.heap.size ≤ XI5.heap.size := hbXI5.size
              have hDY : XI5.heap.size ≤ XI5.heap.size := Nat.le_refl _
              dsimp only
              refine hK.out _ _ (At1.of hXI5) (fun hHeld => ?_)
              clear hK K hbXI5 
              clear CKXI4
              refine wpAnyH_take (i := 7) (v := ?_) rfl (by kernel_rfl) (by kernel_rfl) (by kernel_rfl) (fun _ _ _ h => h) (Or.inl ⟨by rfl, ?_⟩) hHeld ?_
              rotate_left 1
              · intro w' hSw
                obtain ⟨c0, c1, c2, c3, c4, c5⟩ := HWC.out _ hSw
                go_simp
                try with_reducible rfl
              simp only [Act.put, List.getElem_toArray, List.getElem_cons_zero, List.getElem_cons_succ]
              refine wpAnyH_take (i := 8) (v := ?_) rfl (by kernel_rfl) (by kernel_rfl) (by kernel_rfl) (fun _ _ _ h => h) (Or.inl ⟨by rfl, ?_⟩) hHeld ?_
              rotate_left 1
              · intro w' hSw
                obtain ⟨c0, c1, c2, c3, c4, c5⟩ := HWC.out _ hSw
                go_simp
                try with_reducible rfl
              simp only [Act.put, List.getElem_toArray, List.getElem_cons_zero, List.getElem_cons_succ]
              refine wpAnyH_take (i := 9) (v := ?_) rfl (by kernel_rfl) (by kernel_rfl) (by kernel_rfl) (fun _ _ _ h => h) (Or.inl ⟨by rfl, ?_⟩) hHeld ?_
              rotate_left 1
              · intro w' hSw
                obtain ⟨c0, c1, c2, c3, c4, c5⟩ := HWC.out _ hSw
                go_simp
                try with_reducible rfl
              simp only [Act.put, List.getElem_toArray, List.getElem_cons_zero, List.getElem_cons_succ]
              refine wpAnyH_ready (rs := [11]) (by kernel_rfl) (by simp) ?_
              refine AllReadyH.cons rfl (fun K hK => ?_) AllReadyH.nil
              obtain ⟨m0, f0⟩ := CKXI5.out.g0
              obtain ⟨m1, f1⟩ := CKXI5.out.g1
              have CZ := (CKXI5.out.s0 (.slice xi s.1.length yi)).s1 (.slice ui s.2.length vi)
              have hZ : Below WB.heap.size WB ((XI5.setCell ⟨XI1.heap.size, 0, none⟩ (.slice xi s.1.length yi)).setCell ⟨XI1.heap.size, 1, none⟩ (.slice ui s.2.length vi)) := (hXI5.setCell (p := ⟨XI1.heap.size, 0, none⟩) hkXI4 _).setCell (p := ⟨XI1.heap.size, 1, none⟩) hkXI4 _
              have GZ' := G_XI5.out.cell2 (.slice xi s.1.length yi) (.slice ui s.2.length vi) hap
              go_simp
              refine hK.out _ _ (At1.of hZ) (fun hHeld => ?_)
              clear hK K m0 m1 f0 f1
              refine wpAnyH_ready (rs := [12]) (by kernel_rfl) (by simp) ?_
              refine AllReadyH.cons rfl (fun K hK => ?_) AllReadyH.nil
              go_simp
              refine hK.out _ _ (At1.of hZ) (fun hHeld => ?_)
              clear hK K
              refine wpAnyH_done (by kernel_rfl) ?_ _
              go_simp
              refine hKK _ _ (Met.intro (hJ _ _ ?_))
              (repeat apply Exists.intro)
              exact ⟨⟨rfl, _, _, _, _, _, _, _, rfl, hkXI4, hsl, hBD, by simp, hap, CZ, GZ', hZ⟩, rfl⟩
          · go_simp
            have hXI6 : Below WB.heap.size WB (Q0.alloc (.cells #[.slice none 0 0, .slice none 0 0] 32)) := hD0.alloc hD0.size _
            have CKXI6 : Hid (Cells (Q0.alloc (.cells #[.slice none 0 0, .slice none 0 0] 32)) Q0.heap.size [.slice none 0 0, .slice none 0 0]) := Cells.new Q0 _ rfl _ _
            have hkXI6 : WB.heap.size ≤ Q0.heap.size := hD0.size
            refine hK.out _ _ (At1.of hXI6) (fun hHeld => ?_)
            clear hK K
            generalize Q0.alloc (.cells #[.slice none 0 0, .slice none 0 0] 32) = XI6 at hXI6 CKXI6   hHeld ⊢
            refine wpAnyH_ready (rs := [4]) (by kernel_rfl) (by simp) ?_
            refine AllReadyH.cons rfl (fun K hK => ?_) AllReadyH.nil
            go_simp
            refine (St.toInsn i.1 i.2.1 i.2.2 XI6).mono ?_
            rintro e XI7 ⟨rfl, hbXI7⟩
            have hXI7 : Below WB.heap.size WB XI7 := below_over hXI6 hbXI7
            have CKXI7 : Hid (Cells XI7 Q0.heap.size [.slice none 0 0, .slice none 0 0]) := CKXI6.out.on hbXI7
            dsimp only
            refine hK.out _ _ (At1.of hXI7) (fun hHeld => ?_)
            clear hK K hbXI7 
            clear CKXI6
            refine wpAnyH_ready (rs := [6]) (by kernel_rfl) (by simp) ?_
            refine AllReadyH.cons rfl (fun K hK => ?_) AllReadyH.nil
            go_simp
            refine (HIF.out U3.heap.size a4 d4 r1 r2 XI7 (below_over hwB hXI7) (SK.on HVB.out (Keep.of hXI7)) (SI.on HR1.out (Keep.of hXI7)) (SI.on HR2.out (Keep.of hXI7))).mono ?_
            rintro e XI8 ⟨xi, yi, ui, vi, rfl, hgXI8, hbXI8⟩
            have hXI8 : Below WB.heap.size WB XI8 := below_over hXI7 hbXI8
            have G_XI8 : Hid (StZ XI7.heap.size XI8.heap.size XI8 (.slice xi s.1.length yi) (.slice ui s.2.length vi) s) := hgXI8
            have CKXI8 : Hid (Cells XI8 Q0.heap.size [.slice none 0 0, .slice none 0 0]) := CKXI7.out.on hbXI8
            have hap : Q0.heap.size < XI7.heap.size ∨ XI8.heap.size ≤ Q0.heap.size := .inl (cell_lt CKXI7.out.g0.1)
            have hsl : WB.heap.size ≤ XI7.heap.size := hXI7.size
            have hBD : XI7.heap.size ≤ XI8.heap.size := hbXI8.size
            have hDY : XI8.heap.size ≤ XI8.heap.size := Nat.le_refl _
            dsimp only
            refine hK.out _ _ (At1.of hXI8) (fun hHeld => ?_)
            clear hK K hbXI8 
            clear CKXI7
            refine wpAnyH_take (i := 7) (v := ?_) rfl (by kernel_rfl) (by kernel_rfl) (by kernel_rfl) (fun _ _ _ h => h) (Or.inl ⟨by rfl, ?_⟩) hHeld ?_
            rotate_left 1
            · intro w' hSw
              obtain ⟨c0, c1, c2, c3, c4, c5⟩ := HWC.out _ hSw
              go_simp
              try with_reducible rfl
            simp only [Act.put, List.getElem_toArray, List.getElem_cons_zero, List.getElem_cons_succ]
            refine wpAnyH_take (i := 8) (v := ?_) rfl (by kernel_rfl) (by kernel_rfl) (by kernel_rfl) (fun _ _ _ h => h) (Or.inl ⟨by rfl, ?_⟩) hHeld ?_
            rotate_left 1
            · intro w' hSw
              obtain ⟨c0, c1, c2, c3, c4, c5⟩ := HWC.out _ hSw
              go_simp
              try with_reducible rfl
            simp only [Act.put, List.getElem_toArray, List.getElem_cons_zero, List.getElem_cons_succ]
            refine wpAnyH_take (i := 9) (v := ?_) rfl (by kernel_rfl) (by kernel_rfl) (by kernel_rfl) (fun _ _ _ h => h) (Or.inl ⟨by rfl, ?_⟩) hHeld ?_
            rotate_left 1
            · intro w' hSw
              obtain ⟨c0, c1, c2, c3, c4, c5⟩ := HWC.out _ hSw
              go_simp
              try with_reducible rfl
            simp only [Act.put, List.getElem_toArray, List.getElem_cons_zero, List.getElem_cons_succ]
            refine wpAnyH_ready (rs := [11]) (by kernel_rfl) (by simp) ?_
            refine AllReadyH.cons rfl (fun K hK => ?_) AllReadyH.nil
            obtain ⟨m0, f0⟩ := CKXI8.out.g0
            obtain ⟨m1, f1⟩ := CKXI8.out.g1
            have CZ := (CKXI8.out.s0 (.slice xi s.1.length yi)).s1 (.slice ui s.2.length vi)
            have hZ : Below WB.heap.size WB ((XI8.setCell ⟨Q0.heap.size, 0, none⟩ (.slice xi s.1.length yi)).setCell ⟨Q0.heap.size, 1, none⟩ (.slice ui s.2.length vi)) := (hXI8.setCell (p := ⟨Q0.heap.size, 0, none⟩) hkXI6 _).setCell (p := ⟨Q0.heap.size, 1, none⟩) hkXI6 _
            have GZ' := G_XI8.out.cell2 (.slice xi s.1.length yi) (.slice ui s.2.length vi) hap
            go_simp
            refine hK.out _ _ (At1.of hZ) (fun hHeld => ?_)
            clear hK K m0 m1 f0 f1
            refine wpAnyH_ready (rs := [12]) (by kernel_rfl) (by simp) ?_
            refine AllReadyH.cons rfl (fun K hK => ?_) AllReadyH.nil
            go_simp
            refine hK.out _ _ (At1.of hZ) (fun hHeld => ?_)
            clear hK K
            refine wpAnyH_done (by kernel_rfl) ?_ _
            go_simp
            refine hKK _ _ (Met.intro (hJ _ _ ?_))
            (repeat apply Exists.intro)
            exact ⟨⟨rfl, _, _, _, _, _, _, _, rfl, hkXI6, hsl, hBD, by simp, hap, CZ, GZ', hZ⟩, rfl⟩
        case rest =>
          clear HWC HR1 HR2
          obtain ⟨rfl, kI, BI, DI, xi, yi, ui, vi, rfl, hkI0, hBI0, hBDI, hDI, hapI, hcI, hgI, hbI⟩ := hcut
          rename World => U6
          have HAP : Hid (kI < BI ∨ DI ≤ kI) := hapI
          have BI6 : Hid (Cells U6 kI [.slice xi s.1.length yi, .slice ui s.2.length vi]) := hcI
          have GI6 : Hid (StZ BI DI U6 (.slice xi s.1.length yi) (.slice ui s.2.length vi) s) := hgI
          have hkI : kI < U6.heap.size := cell_lt hcI.g0.1
          have hw6 : Below w.heap.size w U6 := below_over hwB hbI
          have hW6 : Below W.heap.size W U6 := below_over hWB hbI
          have BS6 : Hid (Cells U6 kS [.slice xs s.1.length ys, .slice us s.2.length vs]) := BSB.out.on hbI
          have GS6 : Hid (StZ BS DS U6 (.slice xs s.1.length ys) (.slice us s.2.length vs) s) := GSB.out.on hbI
          have X06 : Hid (Cells U6 w4.heap.size [.slice a4 p.length d4]) := X0B.out.on hbI
          have HV6 : Hid (SK front U3.heap.size U6 (.slice a4 p.length d4) p) := SK.on HVB.out (Keep.of hbI)
          have SH6 : Hid (ShK U3.heap.size w4.heap.size U6 (.slice a4 p.length d4) p) := SHB.out.mrk (Mrk.of hbI)
          have X46 : Hid (Cells U6 wA.heap.size [.slice r1 st.length st.length, .slice r2 lo.length lo.length]) := X4B.out.on hbI
          have GX6 : Hid (StZ W5.heap.size wA.heap.size U6 (.slice r1 st.length st.length) (.slice r2 lo.length lo.length) (st, lo)) := GXB.out.on hbI
          clear BSB GSB X0B HVB SHB X4B GXB hwB hWB
          obtain ⟨i0, _⟩ := BI6.out.g0
          obtain ⟨i1, _⟩ := BI6.out.g1
          obtain ⟨s0, _⟩ := BS6.out.g0
          obtain ⟨s1, _⟩ := BS6.out.g1
          clear hcI hgI hbI hapI
          go_wp2_with fail
          refine (eqStateZ BI DI BS DS s h8 h9 xi ui xs us yi vi ys vs U6 GI6.out GS6.out).mono ?_
          rintro e w7 ⟨rfl, hb7⟩
          clear i0 i1 s0 s1
          have hz67 : U6.heap.size ≤ w7.heap.size := hb7.size
          have hw7 : Below w.heap.size w w7 := below_over hw6 hb7
          have hW7 : Below W.heap.size W w7 := below_over hW6 hb7
          have BS7 : Hid (Cells w7 kS [.slice xs s.1.length ys, .slice us s.2.length vs]) := BS6.out.on hb7
          have GS7 : Hid (StZ BS DS w7 (.slice xs s.1.length ys) (.slice us s.2.length vs) s) := GS6.out.on hb7
          have X07 : Hid (Cells w7 w4.heap.size [.slice a4 p.length d4]) := X06.out.on hb7
          have HV7 : Hid (SK front U3.heap.size w7 (.slice a4 p.length d4) p) := SK.on HV6.out (Keep.of hb7)
          have SH7 : Hid (ShK U3.heap.size w4.heap.size w7 (.slice a4 p.length d4) p) := SH6.out.mrk (Mrk.of hb7)
          have X47 : Hid (Cells w7 wA.heap.size [.slice r1 st.length st.length, .slice r2 lo.length lo.length]) := X46.out.on hb7
          have GX7 : Hid (StZ W5.heap.size wA.heap.size w7 (.slice r1 st.length st.length) (.slice r2 lo.length lo.length) (st, lo)) := GX6.out.on hb7
          have BI7 : Hid (Cells w7 kI [.slice xi s.1.length yi, .slice ui s.2.length vi]) := BI6.out.on hb7
          have GI7 : Hid (StZ BI DI w7 (.slice xi s.1.length yi) (.slice ui s.2.length vi) s) := GI6.out.on hb7
          clear BS6 GS6 X06 HV6 SH6 X46 GX6 BI6 GI6 hw6 hW6
          clear hb7
          have HWC : Hid (∀ y, At1 w7 w7.heap.size y → y.cell? ⟨w4.heap.size, 0, none⟩ = some (.slice a4 p.length d4) ∧ y.cell? ⟨w.heap.size, 0, none⟩ = some (.slice a p.length cap)) := fun y hy => ⟨hy _ _ _ (Nat.ne_of_lt (cell_lt (X07.out.g0.1))) (cell_lt (X07.out.g0.1)) (X07.out.g0.1), hy _ _ _ (Nat.ne_of_lt (cell_lt ((L0.out.on hW7).g0.1))) (cell_lt ((L0.out.on hW7).g0.1)) ((L0.out.on hW7).g0.1)⟩
          go_wp2_with fail
          go_cut [72] (fun b y => b = .bool false ∧ Below w7.heap.size w7 y)
          case first =>
            rename_i J KK hJ hKK
            have hD0 : Below w7.heap.size w7 w7.drew := (Below.refl _ _).drew
            refine wp_region_held_drew (S := At1 w7 w7.heap.size) (by kernel_rfl) (At1.of hD0) (fun hHeld => ?_)
            generalize w7.drew = Q0 at hD0 hHeld ⊢
            refine wpAnyH_take (i := 0) (v := ?_) rfl (by kernel_rfl) (by kernel_rfl) (by kernel_rfl) (fun _ _ _ h => h) (Or.inl ⟨by rfl, ?_⟩) hHeld ?_
            rotate_left 1
            · intro w' hSw
              obtain ⟨c0, c1⟩ := HWC.out _ hSw
              go_simp
              try with_reducible rfl
            simp only [Act.put, List.getElem_toArray, List.getElem_cons_zero]
            refine wpAnyH_take (i := 1) (v := ?_) rfl (by kernel_rfl) (by kernel_rfl) (by kernel_rfl) (fun _ _ _ h => h) (Or.inl ⟨by rfl, ?_⟩) hHeld ?_
            rotate_left 1
            · intro w' hSw
              obtain ⟨c0, c1⟩ := HWC.out _ hSw
              go_simp
              try with_reducible rfl
            simp only [Act.put, List.getElem_toArray, List.getElem_cons_zero, List.getElem_cons_succ]
            refine wpAnyH_ready (rs := [2]) (by kernel_rfl) (by simp) ?_
            refine AllReadyH.cons rfl (fun K hK => ?_) AllReadyH.nil
            go_simp
            refine (toProgram p a cap HSM.out Q0 (SK.on HIN.out (Keep.of (below_over hw7 hD0)))).mono ?_
            rintro e Q1 ⟨v8, rfl, hv8, hq1⟩
            obtain ⟨a8, d8, rfl⟩ := hv8.form
            have hD1 : Below w7.heap.size w7 Q1 := below_over hD0 hq1
            dsimp only
            refine hK.out _ _ (At1.of hD1) (fun hHeld => ?_)
            clear hK K
            refine wpAnyH_ready (rs := [3]) (by kernel_rfl) (by simp) ?_
            refine AllReadyH.cons rfl (fun K hK => ?_) AllReadyH.nil
            go_simp
            refine (eqProgram U3.heap.size _ (.slice a4 p.length d4) (.slice a8 p.length d8) p HSM.out Q1 (SK.on HV7.out (Keep.of hD1)) hv8).mono ?_
            rintro e Q2 ⟨rfl, hq2⟩
            have hD2 : Below w7.heap.size w7 Q2 := below_over hD1 hq2
            dsimp only
            refine hK.out _ _ (At1.of hD2) (fun hHeld => ?_)
            clear hK K
            refine wpAnyH_take (i := 4) (v := ?_) rfl (by kernel_rfl) (by kernel_rfl) (by kernel_rfl) (fun _ _ _ h => h) (Or.inl ⟨by rfl, ?_⟩) hHeld ?_
            rotate_left 1
            · intro w' hSw
              obtain ⟨c0, c1⟩ := HWC.out _ hSw
              go_simp
              try with_reducible rfl
            simp only [Act.put, List.getElem_toArray, List.getElem_cons_zero, List.getElem_cons_succ]
            refine wpAnyH_done (by kernel_rfl) ?_ _
            go_simp
            refine hKK _ _ (Met.intro (hJ _ _ ?_))
            (repeat apply Exists.intro)
            exact ⟨⟨rfl, hD2⟩, rfl⟩
          case rest =>
            clear HWC
            obtain ⟨rfl, hb8⟩ := hcut
            rename World => w8
            have hz78 : w7.heap.size ≤ w8.heap.size := hb8.size
            have hw8 : Below w.heap.size w w8 := below_over hw7 hb8
            have hW8 : Below W.heap.size W w8 := below_over hW7 hb8
            have BS8 : Hid (Cells w8 kS [.slice xs s.1.length ys, .slice us s.2.length vs]) := BS7.out.on hb8
            have GS8 : Hid (StZ BS DS w8 (.slice xs s.1.length ys) (.slice us s.2.length vs) s) := GS7.out.on hb8
            have X08 : Hid (Cells w8 w4.heap.size [.slice a4 p.length d4]) := X07.out.on hb8
            have SH8 : Hid (ShK U3.heap.size w4.heap.size w8 (.slice a4 p.length d4) p) := SH7.out.mrk (Mrk.of hb8)
            have X48 : Hid (Cells w8 wA.heap.size [.slice r1 st.length st.length, .slice r2 lo.length lo.length]) := X47.out.on hb8
            have GX8 : Hid (StZ W5.heap.size wA.heap.size w8 (.slice r1 st.length st.length) (.slice r2 lo.length lo.length) (st, lo)) := GX7.out.on hb8
            have BI8 : Hid (Cells w8 kI [.slice xi s.1.length yi, .slice ui s.2.length vi]) := BI7.out.on hb8
            have GI8 : Hid (StZ BI DI w8 (.slice xi s.1.length yi) (.slice ui s.2.length vi) s) := GI7.out.on hb8
            clear HV7 BS7 GS7 X07 SH7 X47 GX7 BI7 GI7 hw7 hW7
            clear hb8
            have HWC : Hid (∀ y, At1 w8 w8.heap.size y → y.cell? ⟨wA.heap.size, 0, none⟩ = some (.slice r1 st.length st.length) ∧ y.cell? ⟨wA.heap.size, 1, none⟩ = some (.slice r2 lo.length lo.length) ∧ y.cell? ⟨w.heap.size + 1 + 1, 0, none⟩ = some (.slice y1 st.length z1) ∧ y.cell? ⟨w.heap.size + 1 + 1, 1, none⟩ = some (.slice y2 lo.length z2)) := fun y hy => ⟨hy _ _ _ (Nat.ne_of_lt (cell_lt (X48.out.g0.1))) (cell_lt (X48.out.g0.1)) (X48.out.g0.1), hy _ _ _ (Nat.ne_of_lt (cell_lt (X48.out.g1.1))) (cell_lt (X48.out.g1.1)) (X48.out.g1.1), hy _ _ _ (Nat.ne_of_lt (cell_lt ((L2.out.on hW8).g0.1))) (cell_lt ((L2.out.on hW8).g0.1)) ((L2.out.on hW8).g0.1), hy _ _ _ (Nat.ne_of_lt (cell_lt ((L2.out.on hW8).g1.1))) (cell_lt ((L2.out.on hW8).g1.1)) ((L2.out.on hW8).g1.1)⟩
            go_wp2_with fail
            go_cut [77] (fun b y => b = .bool false ∧ Below w8.heap.size w8 y)
            case first =>
              rename_i J KK hJ hKK
              have hD0 : Below w8.heap.size w8 w8.drew := (Below.refl _ _).drew
              refine wp_region_held_drew (S := At1 w8 w8.heap.size) (by kernel_rfl) (At1.of hD0) (fun hHeld => ?_)
              generalize w8.drew = Q0 at hD0 hHeld ⊢
              refine wpAnyH_take (i := 0) (v := ?_) rfl (by kernel_rfl) (by kernel_rfl) (by kernel_rfl) (fun _ _ _ h => h) (Or.inl ⟨by rfl, ?_⟩) hHeld ?_
              rotate_left 1
              · intro w' hSw
                obtain ⟨c0, c1, c2, c3⟩ := HWC.out _ hSw
                go_simp
                try with_reducible rfl
              simp only [Act.put, List.getElem_toArray, List.getElem_cons_zero]
              refine wpAnyH_take (i := 1) (v := ?_) rfl (by kernel_rfl) (by kernel_rfl) (by kernel_rfl) (fun _ _ _ h => h) (Or.inl ⟨by rfl, ?_⟩) hHeld ?_
              rotate_left 1
              · intro w' hSw
                obtain ⟨c0, c1, c2, c3⟩ := HWC.out _ hSw
                go_simp
                try with_reducible rfl
              simp only [Act.put, List.getElem_toArray, List.getElem_cons_zero, List.getElem_cons_succ]
              refine wpAnyH_ready (rs := [2]) (by kernel_rfl) (by simp) ?_
              refine AllReadyH.cons rfl (fun K hK => ?_) AllReadyH.nil
              go_simp
              refine (toState2 st lo y1 y2 z1 z2 h1 h2 Q0 (SI.on HI1.out (Keep.of (below_over hw8 hD0))) (SI.on HI2.out (Keep.of (below_over hw8 hD0)))).mono ?_
              rintro e Q1 ⟨p1, p2, rfl, hz1, hq1⟩
              have hD1 : Below w8.heap.size w8 Q1 := below_over hD0 hq1
              dsimp only
              refine hK.out _ _ (At1.of hD1) (fun hHeld => ?_)
              clear hK K
              refine wpAnyH_ready (rs := [3]) (by kernel_rfl) (by simp) ?_
              refine AllReadyH.cons rfl (fun K hK => ?_) AllReadyH.nil
              go_simp
              refine (eqState2 W5.heap.size wA.heap.size Q0.heap.size Q1.heap.size st lo h1 h2 r1 r2 p1 p2 st.length lo.length st.length lo.length Q1 (GX8.out.on hD1) hz1).mono ?_
              rintro e Q2 ⟨rfl, hq2⟩
              have hD2 : Below w8.heap.size w8 Q2 := below_over hD1 hq2
              dsimp only
              refine hK.out _ _ (At1.of hD2) (fun hHeld => ?_)
              clear hK K
              refine wpAnyH_take (i := 4) (v := ?_) rfl (by kernel_rfl) (by kernel_rfl) (by kernel_rfl) (fun _ _ _ h => h) (Or.inl ⟨by rfl, ?_⟩) hHeld ?_
              rotate_left 1
              · intro w' hSw
                obtain ⟨c0, c1, c2, c3⟩ := HWC.out _ hSw
                go_simp
                try with_reducible rfl
              simp only [Act.put, List.getElem_toArray, List.getElem_cons_zero, List.getElem_cons_succ]
              refine wpAnyH_done (by kernel_rfl) ?_ _
              go_simp
              refine hKK _ _ (Met.intro (hJ _ _ ?_))
              (repeat apply Exists.intro)
              exact ⟨⟨rfl, hD2⟩, rfl⟩
            case rest =>
              clear HWC
              obtain ⟨rfl, hb9⟩ := hcut
              rename World => w9
              have hz89 : w8.heap.size ≤ w9.heap.size := hb9.size
              have hw9 : Below w.heap.size w w9 := below_over hw8 hb9
              have hW9 : Below W.heap.size W w9 := below_over hW8 hb9
              have BS9 : Hid (Cells w9 kS [.slice xs s.1.length ys, .slice us s.2.length vs]) := BS8.out.on hb9
              have GS9 : Hid (StZ BS DS w9 (.slice xs s.1.length ys) (.slice us s.2.length vs) s) := GS8.out.on hb9
              have X09 : Hid (Cells w9 w4.heap.size [.slice a4 p.length d4]) := X08.out.on hb9
              have SH9 : Hid (ShK U3.heap.size w4.heap.size w9 (.slice a4 p.length d4) p) := SH8.out.mrk (Mrk.of hb9)
              have X49 : Hid (Cells w9 wA.heap.size [.slice r1 st.length st.length, .slice r2 lo.length lo.length]) := X48.out.on hb9
              have GX9 : Hid (StZ W5.heap.size wA.heap.size w9 (.slice r1 st.length st.length) (.slice r2 lo.length lo.length) (st, lo)) := GX8.out.on hb9
              have BI9 : Hid (Cells w9 kI [.slice xi s.1.length yi, .slice ui s.2.length vi]) := BI8.out.on hb9
              have GI9 : Hid (StZ BI DI w9 (.slice xi s.1.length yi) (.slice ui s.2.length vi) s) := GI8.out.on hb9
              clear BS8 GS8 X08 SH8 X48 GX8 BI8 GI8 hw8 hW8
              obtain ⟨x9, _⟩ := X09.out.g0
              clear hb9
              go_wp2_with fail
              refine (markProgram' U3.heap.size w4.heap.size a4 d4 p HSN.out w9 SH9.out).mono ?_
              rintro e wD ⟨rfl, hmD⟩
              have HZ5o := HZ5.out
              have HZBo := HZB.out
              have hwD : Below w.heap.size w wD := hw9.trans (hmD.below hzw hw9.size)
              have hWD : Below W.heap.size W wD := hW9.trans (hmD.below hzW hW9.size)
              have BSD : Hid (Cells wD kS [.slice xs s.1.length ys, .slice us s.2.length vs]) := BS9.out.mrk hmD (.inl (by omega))
              have GSD : Hid (StZ BS DS wD (.slice xs s.1.length ys) (.slice us s.2.length vs) s) := GS9.out.mrk hmD (.inl (by omega))
              have X4D : Hid (Cells wD wA.heap.size [.slice r1 st.length st.length, .slice r2 lo.length lo.length]) := X49.out.mrk hmD (.inr (by omega))
              have GXD : Hid (StZ W5.heap.size wA.heap.size wD (.slice r1 st.length st.length) (.slice r2 lo.length lo.length) (st, lo)) := GX9.out.mrk hmD (.inr (by omega))
              have BID : Hid (Cells wD kI [.slice xi s.1.length yi, .slice ui s.2.length vi]) := BI9.out.mrk hmD (.inr (by omega))
              have GID : Hid (StZ BI DI wD (.slice xi s.1.length yi) (.slice ui s.2.length vi) s) := GI9.out.mrk hmD (.inr (by omega))
              have hzD : w9.heap.size ≤ wD.heap.size := hmD.size
              obtain ⟨t0, _⟩ := X4D.out.g0
              obtain ⟨t1, _⟩ := X4D.out.g1
              clear hmD BS9 GS9 X09 SH9 X49 GX9 BI9 GI9 x9 hw9 hW9 HZ5o HZBo
              generalize 1 + cntP p = cnt at *
              go_wp2_with fail
              refine (markState2 W5.heap.size wA.heap.size cnt st lo h1 h2 HCT.out r1 r2 st.length lo.length wD (by have := HZB.out; omega) (by have := HZB.out; omega) GXD.out).mono ?_
              rintro e wM ⟨rfl, bM, kM⟩
              have HZ5o := HZ5.out
              have HZBo := HZB.out
              have hwM : Below w.heap.size w wM := hwD.trans (below_less bM (by omega))
              have hWM : Below W.heap.size W wM := hWD.trans (below_less bM (by omega))
              have BSM : Hid (Cells wM kS [.slice xs s.1.length ys, .slice us s.2.length vs]) := BSD.out.low bM (by omega)
              have GSM : Hid (StZ BS DS wM (.slice xs s.1.length ys) (.slice us s.2.length vs) s) := GSD.out.low bM (by omega)
              have BIM : Hid (Cells wM kI [.slice xi s.1.length yi, .slice ui s.2.length vi]) := BID.out.keep kM (by omega)
              have GIM : Hid (StZ BI DI wM (.slice xi s.1.length yi) (.slice ui s.2.length vi) s) := GID.out.high kM (by omega)
              have hzM : wD.heap.size ≤ wM.heap.size := kM.size
              obtain ⟨i0, _⟩ := BIM.out.g0
              obtain ⟨i1, _⟩ := BIM.out.g1
              obtain ⟨s0, _⟩ := BSM.out.g0
              obtain ⟨s1, _⟩ := BSM.out.g1
              clear bM kM BSD GSD X4D GXD BID GID t0 t1 hwD hWD HCT HZ5o HZBo
              generalize cnt + st.length + lo.length = cnt2 at *
              have hneg : ¬ ((cnt2 : Int) < 0) := by omega
              go_wp2_with fail
              refine (eqStateZ BI DI BS DS s h8 h9 xi ui xs us yi vi ys vs wM GIM.out GSM.out).mono ?_
              rintro e wE ⟨rfl, hbE⟩
              clear i0 i1 s0 s1
              have hzE : wM.heap.size ≤ wE.heap.size := hbE.size
              have hwE : Below w.heap.size w wE := below_over hwM hbE
              have hWE : Below W.heap.size W wE := below_over hWM hbE
              have BSE : Hid (Cells wE kS [.slice xs s.1.length ys, .slice us s.2.length vs]) := BSM.out.on hbE
              have GSE : Hid (StZ BS DS wE (.slice xs s.1.length ys) (.slice us s.2.length vs) s) := GSM.out.on hbE
              have BIE : Hid (Cells wE kI [.slice xi s.1.length yi, .slice ui s.2.length vi]) := BIM.out.on hbE
              have GIE : Hid (StZ BI DI wE (.slice xi s.1.length yi) (.slice ui s.2.length vi) s) := GIM.out.on hbE
              clear BSM GSM BIM GIM hwM hWM
              obtain ⟨j0, _⟩ := BIE.out.g0
              obtain ⟨j1, _⟩ := BIE.out.g1
              clear hbE
              have hDIE : DI ≤ wE.heap.size := by omega
              have hBIE : BI ≤ wE.heap.size := by omega
              go_wp2_with fail
              refine (markStateZ BI DI 1 s h8 h9 HMS.out xi ui yi vi wE hBIE hDIE GIE.out).mono ?_
              rintro e wF ⟨rfl, gF, bF, kF⟩
              have HZ5o := HZ5.out
              have HZBo := HZB.out
              have hwF : Below w.heap.size w wF := hwE.trans (below_less bF (by omega))
              have hWF : Below W.heap.size W wF := hWE.trans (below_less bF (by omega))
              have BSF : Hid (Cells wF kS [.slice xs s.1.length ys, .slice us s.2.length vs]) := BSE.out.low bF (by omega)
              have GSF : Hid (StZ BS DS wF (.slice xs s.1.length ys) (.slice us s.2.length vs) s) := GSE.out.low bF (by omega)
              have BIF : Hid (Cells wF kI [.slice xi s.1.length yi, .slice ui s.2.length vi]) := by
                rcases HAP.out with h | h
                · exact BIE.out.low bF h
                · exact BIE.out.keep kF h
              have GMF : Hid (StZ BI DI wF (.slice xi s.1.length yi) (.slice ui s.2.length vi) (stMarks 1 s)) := gF
              obtain ⟨k0, _⟩ := BIF.out.g0
              obtain ⟨k1, _⟩ := BIF.out.g1
              clear gF bF kF BSE GSE BIE GIE hwE hWE j0 j1 HZ5o HZBo
              generalize hqq : 1 + s.1.length + s.2.length = mq at *
              have HQQ : Hid (1 + s.1.length + s.2.length = mq) := hqq
              clear hqq
              have hq0 : ¬ ((mq : Int) < 0) := by omega
              go_wp2_with fail
              refine (heldStateZ BI DI 1 s h8 h9 (by have h1 := HQQ.out; have h2 := HMS.out; omega) xi ui yi vi wF GMF.out).mono ?_
              rw [HQQ.out]
              rintro e wG ⟨rfl, hbG⟩
              have hwG : Below w.heap.size w wG := below_over hwF hbG
              have hWG : Below W.heap.size W wG := below_over hWF hbG
              have BSG : Hid (Cells wG kS [.slice xs s.1.length ys, .slice us s.2.length vs]) := BSF.out.on hbG
              have GSG : Hid (StZ BS DS wG (.slice xs s.1.length ys) (.slice us s.2.length vs) s) := GSF.out.on hbG
              have BIG : Hid (Cells wG kI [.slice xi s.1.length yi, .slice ui s.2.length vi]) := BIF.out.on hbG
              have GMG : Hid (StZ BI DI wG (.slice xi s.1.length yi) (.slice ui s.2.length vi) (stMarks 1 s)) := GMF.out.on hbG
              clear BSF GSF BIF GMF hwF hWF
              clear hbG k0 k1
              have HWC : Hid (∀ y, At1 wG wG.heap.size y → y.cell? ⟨w.heap.size, 0, none⟩ = some (.slice a p.length cap) ∧ y.cell? ⟨w.heap.size + 1, 0, none⟩ = some (.int .i64 i.1) ∧ y.cell? ⟨w.heap.size + 1, 1, none⟩ = some (.int .i64 i.2.1) ∧ y.cell? ⟨w.heap.size + 1, 2, none⟩ = some (.int .i64 i.2.2) ∧ y.cell? ⟨w.heap.size + 1 + 1, 0, none⟩ = some (.slice y1 st.length z1) ∧ y.cell? ⟨w.heap.size + 1 + 1, 1, none⟩ = some (.slice y2 lo.length z2)) := fun y hy => ⟨hy _ _ _ (Nat.ne_of_lt (cell_lt ((L0.out.on hWG).g0.1))) (cell_lt ((L0.out.on hWG).g0.1)) ((L0.out.on hWG).g0.1), hy _ _ _ (Nat.ne_of_lt (cell_lt ((L1.out.on hWG).g0.1))) (cell_lt ((L1.out.on hWG).g0.1)) ((L1.out.on hWG).g0.1), hy _ _ _ (Nat.ne_of_lt (cell_lt ((L1.out.on hWG).g1.1))) (cell_lt ((L1.out.on hWG).g1.1)) ((L1.out.on hWG).g1.1), hy _ _ _ (Nat.ne_of_lt (cell_lt ((L1.out.on hWG).g2.1))) (cell_lt ((L1.out.on hWG).g2.1)) ((L1.out.on hWG).g2.1), hy _ _ _ (Nat.ne_of_lt (cell_lt ((L2.out.on hWG).g0.1))) (cell_lt ((L2.out.on hWG).g0.1)) ((L2.out.on hWG).g0.1), hy _ _ _ (Nat.ne_of_lt (cell_lt ((L2.out.on hWG).g1.1))) (cell_lt ((L2.out.on hWG).g1.1)) ((L2.out.on hWG).g1.1)⟩
              go_wp2_with fail
              go_cut [21, 22] (fun v b y => b = .bool q ∧ Got2 wG s v y)
              case first =>
                rename_i J KK hJ hKK
                have hD0 : Below wG.heap.size wG wG.drew := (Below.refl _ _).drew
                refine wp_region_held_drew (S := At1 wG wG.heap.size) (by kernel_rfl) (At1.of hD0) (fun hHeld => ?_)
                generalize wG.drew = Q0 at hD0 hHeld ⊢
                refine wpAnyH_take (i := 0) (v := ?_) rfl (by kernel_rfl) (by kernel_rfl) (by kernel_rfl) (fun _ _ _ h => h) (Or.inl ⟨by rfl, ?_⟩) hHeld ?_
                rotate_left 1
                · intro w' hSw
                  obtain ⟨c0, c1, c2, c3, c4, c5⟩ := HWC.out _ hSw
                  go_simp
                  try with_reducible rfl
                simp only [Act.put, List.getElem_toArray, List.getElem_cons_zero]
                refine wpAnyH_take (i := 2) (v := ?_) rfl (by kernel_rfl) (by kernel_rfl) (by kernel_rfl) (fun _ _ _ h => h) (Or.inl ⟨by rfl, ?_⟩) hHeld ?_
                rotate_left 1
                · intro w' hSw
                  obtain ⟨c0, c1, c2, c3, c4, c5⟩ := HWC.out _ hSw
                  go_simp
                  try with_reducible rfl
                simp only [Act.put, List.getElem_toArray, List.getElem_cons_zero, List.getElem_cons_succ]
                refine wpAnyH_take (i := 3) (v := ?_) rfl (by kernel_rfl) (by kernel_rfl) (by kernel_rfl) (fun _ _ _ h => h) (Or.inl ⟨by rfl, ?_⟩) hHeld ?_
                rotate_left 1
                · intro w' hSw
                  obtain ⟨c0, c1, c2, c3, c4, c5⟩ := HWC.out _ hSw
                  go_simp
                  try with_reducible rfl
                simp only [Act.put, List.getElem_toArray, List.getElem_cons_zero, List.getElem_cons_succ]
                refine wpAnyH_take (i := 4) (v := ?_) rfl (by kernel_rfl) (by kernel_rfl) (by kernel_rfl) (fun _ _ _ h => h) (Or.inl ⟨by rfl, ?_⟩) hHeld ?_
                rotate_left 1
                · intro w' hSw
                  obtain ⟨c0, c1, c2, c3, c4, c5⟩ := HWC.out _ hSw
                  go_simp
                  try with_reducible rfl
                simp only [Act.put, List.getElem_toArray, List.getElem_cons_zero, List.getElem_cons_succ]
                refine wpAnyH_take (i := 6) (v := ?_) rfl (by kernel_rfl) (by kernel_rfl) (by kernel_rfl) (fun _ _ _ h => h) (Or.inl ⟨by rfl, ?_⟩) hHeld ?_
                rotate_left 1
                · intro w' hSw
                  obtain ⟨c0, c1, c2, c3, c4, c5⟩ := HWC.out _ hSw
                  go_simp
                  try with_reducible rfl
                simp only [Act.put, List.getElem_toArray, List.getElem_cons_zero, List.getElem_cons_succ]
                refine wpAnyH_ready (rs := [1, 12]) (by kernel_rfl) (by simp) ?_
                refine AllReadyH.cons rfl (fun K hK => ?_) (AllReadyH.cons rfl (fun K hK => ?_) AllReadyH.nil)
                · go_simp
                  refine (toProgram p a cap HSM.out Q0 (SK.on HIN.out (Keep.of (below_over hwG hD0)))).mono ?_
                  rintro e XH1 ⟨vXH1, rfl, hvXH1, hbXH1⟩
                  obtain ⟨a2, d2, rfl⟩ := hvXH1.form
                  have hXH1 : Below wG.heap.size wG XH1 := below_over hD0 hbXH1
                  have HV_XH1 : Hid (SK front wG.heap.size XH1 (.slice a2 p.length d2) p) := SK.weak hvXH1 hD0.size
                  dsimp only
                  refine hK.out _ _ (At1.of hXH1) (fun hHeld => ?_)
                  clear hK K hbXH1 
                  refine wpAnyH_ready (rs := [5, 12]) (by kernel_rfl) (by simp) ?_
                  refine AllReadyH.cons rfl (fun K hK => ?_) (AllReadyH.cons rfl (fun K hK => ?_) AllReadyH.nil)
                  · go_simp
                    refine (St.toInsn i.1 i.2.1 i.2.2 XH1).mono ?_
                    rintro e XH2 ⟨rfl, hbXH2⟩
                    have hXH2 : Below wG.heap.size wG XH2 := below_over hXH1 hbXH2
                    have HV_XH2 : Hid (SK front wG.heap.size XH2 (.slice a2 p.length d2) p) := SK.on HV_XH1.out (Keep.of hbXH2)
                    dsimp only
                    refine hK.out _ _ (At1.of hXH2) (fun hHeld => ?_)
                    clear hK K hbXH2 
                    clear HV_XH1
                    refine wpAnyH_ready (rs := [7, 12]) (by kernel_rfl) (by simp) ?_
                    refine AllReadyH.cons rfl (fun K hK => ?_) (AllReadyH.cons rfl (fun K hK => ?_) AllReadyH.nil)
                    · go_simp
                      refine (toState2 st lo y1 y2 z1 z2 h1 h2 XH2 (SI.on HI1.out (Keep.of (below_over hwG hXH2))) (SI.on HI2.out (Keep.of (below_over hwG hXH2)))).mono ?_
                      rintro e XH3 ⟨p1, p2, rfl, hzXH3, hbXH3⟩
                      have hXH3 : Below wG.heap.size wG XH3 := below_over hXH2 hbXH3
                      have HV_XH3 : Hid (SK front wG.heap.size XH3 (.slice a2 p.length d2) p) := SK.on HV_XH2.out (Keep.of hbXH3)
                      have HS1_XH3 : Hid (SI true wG.heap.size XH3 (.slice p1 st.length st.length) st) := SI.weak hzXH3.1.si hXH2.size
                      have HS2_XH3 : Hid (SI true wG.heap.size XH3 (.slice p2 lo.length lo.length) lo) := SI.weak hzXH3.2.1.si hXH2.size
                      dsimp only
                      refine hK.out _ _ (At1.of hXH3) (fun hHeld => ?_)
                      clear hK K hbXH3 
                      clear HV_XH2
                      refine wpAnyH_ready (rs := [8, 12]) (by kernel_rfl) (by simp) ?_
                      refine AllReadyH.cons rfl (fun K hK => ?_) (AllReadyH.cons rfl (fun K hK => ?_) AllReadyH.nil)
                      · go_simp
                        refine (HIF.out wG.heap.size a2 d2 p1 p2 XH3 (below_over hwG hXH3) HV_XH3.out HS1_XH3.out HS2_XH3.out).mono ?_
                        rintro e XH4 ⟨xh, yh, uh, vh, rfl, hgXH4, hbXH4⟩
                        have hXH4 : Below wG.heap.size wG XH4 := below_over hXH3 hbXH4
                        have G_XH4 : Hid (StZ XH3.heap.size XH4.heap.size XH4 (.slice xh s.1.length yh) (.slice uh s.2.length vh) s) := hgXH4
                        have hsl : wG.heap.size ≤ XH3.heap.size := hXH3.size
                        have hBD : XH3.heap.size ≤ XH4.heap.size := hbXH4.size
                        have hDY : XH4.heap.size ≤ XH4.heap.size := Nat.le_refl _
                        dsimp only
                        refine hK.out _ _ (At1.of hXH4) (fun hHeld => ?_)
                        clear hK K hbXH4 
                        clear HV_XH3 HS1_XH3 HS2_XH3
                        refine wpAnyH_take (i := 9) (v := ?_) rfl (by kernel_rfl) (by kernel_rfl) (by kernel_rfl) (fun _ _ _ h => h) (Or.inl ⟨by rfl, ?_⟩) hHeld ?_
                        rotate_left 1
                        · intro w' hSw
                          obtain ⟨c0, c1, c2, c3, c4, c5⟩ := HWC.out _ hSw
                          go_simp
                          try with_reducible rfl
                        simp only [Act.put, List.getElem_toArray, List.getElem_cons_zero, List.getElem_cons_succ]
                        refine wpAnyH_take (i := 10) (v := ?_) rfl (by kernel_rfl) (by kernel_rfl) (by kernel_rfl) (fun _ _ _ h => h) (Or.inl ⟨by rfl, ?_⟩) hHeld ?_
                        rotate_left 1
                        · intro w' hSw
                          obtain ⟨c0, c1, c2, c3, c4, c5⟩ := HWC.out _ hSw
                          go_simp
                          try with_reducible rfl
                        simp only [Act.put, List.getElem_toArray, List.getElem_cons_zero, List.getElem_cons_succ]
                        refine wpAnyH_take (i := 11) (v := ?_) rfl (by kernel_rfl) (by kernel_rfl) (by kernel_rfl) (fun _ _ _ h => h) (Or.inl ⟨by rfl, ?_⟩) hHeld ?_
                        rotate_left 1
                        · intro w' hSw
                          obtain ⟨c0, c1, c2, c3, c4, c5⟩ := HWC.out _ hSw
                          go_simp
                          try with_reducible rfl
                        simp only [Act.put, List.getElem_toArray, List.getElem_cons_zero, List.getElem_cons_succ]
                        refine wpAnyH_ready (rs := [12]) (by kernel_rfl) (by simp) ?_
                        refine AllReadyH.cons rfl (fun K hK => ?_) AllReadyH.nil
                        go_simp
                        have hXH5 : Below wG.heap.size wG (XH4.alloc (.cells #[.slice none 0 0, .slice none 0 0] 32)) := hXH4.alloc hXH4.size _
                        have CKXH5 : Hid (Cells (XH4.alloc (.cells #[.slice none 0 0, .slice none 0 0] 32)) XH4.heap.size [.slice none 0 0, .slice none 0 0]) := Cells.new XH4 _ rfl _ _
                        have hkXH5 : wG.heap.size ≤ XH4.heap.size := hXH4.size
                        clear hDY
                        have hDY : XH4.heap.size ≤ (XH4.alloc (.cells #[.slice none 0 0, .slice none 0 0] 32)).heap.size := by simp
                        have G_XH5 : Hid (StZ XH3.heap.size XH4.heap.size (XH4.alloc (.cells #[.slice none 0 0, .slice none 0 0] 32)) (.slice xh s.1.length yh) (.slice uh s.2.length vh) s) := (G_XH4.out).on ((Below.refl _ _).alloc (Nat.le_refl _) _)
                        refine hK.out _ _ (At1.of hXH5) (fun hHeld => ?_)
                        clear hK K
                        generalize XH4.alloc (.cells #[.slice none 0 0, .slice none 0 0] 32) = XH5 at hXH5 CKXH5 G_XH5 hDY hHeld ⊢
                        clear G_XH4
                        have hap : XH4.heap.size < XH3.heap.size ∨ XH4.heap.size ≤ XH4.heap.size := .inr (Nat.le_refl _)
                        refine wpAnyH_ready (rs := [13]) (by kernel_rfl) (by simp) ?_
                        refine AllReadyH.cons rfl (fun K hK => ?_) AllReadyH.nil
                        obtain ⟨m0, f0⟩ := CKXH5.out.g0
                        obtain ⟨m1, f1⟩ := CKXH5.out.g1
                        have CZ := (CKXH5.out.s0 (.slice xh s.1.length yh)).s1 (.slice uh s.2.length vh)
                        have hZ : Below wG.heap.size wG ((XH5.setCell ⟨XH4.heap.size, 0, none⟩ (.slice xh s.1.length yh)).setCell ⟨XH4.heap.size, 1, none⟩ (.slice uh s.2.length vh)) := (hXH5.setCell (p := ⟨XH4.heap.size, 0, none⟩) hkXH5 _).setCell (p := ⟨XH4.heap.size, 1, none⟩) hkXH5 _
                        have GZ' := G_XH5.out.cell2 (.slice xh s.1.length yh) (.slice uh s.2.length vh) hap
                        go_simp
                        refine hK.out _ _ (At1.of hZ) (fun hHeld => ?_)
                        clear hK K m0 m1 f0 f1
                        refine wpAnyH_ready (rs := [14]) (by kernel_rfl) (by simp) ?_
                        refine AllReadyH.cons rfl (fun K hK => ?_) AllReadyH.nil
                        go_simp
                        refine hK.out _ _ (At1.of hZ) (fun hHeld => ?_)
                        clear hK K
                        refine wpAnyH_done (by kernel_rfl) ?_ _
                        go_simp
                        refine hKK _ _ (Met.intro (hJ _ _ ?_))
                        (repeat apply Exists.intro)
                        exact ⟨⟨rfl, _, _, _, _, _, _, _, rfl, hkXH5, hsl, hBD, by simpa using hDY, hap, CZ, GZ', hZ⟩, rfl⟩
                      · go_simp
                        have hXH6 : Below wG.heap.size wG (XH3.alloc (.cells #[.slice none 0 0, .slice none 0 0] 32)) := hXH3.alloc hXH3.size _
                        have CKXH6 : Hid (Cells (XH3.alloc (.cells #[.slice none 0 0, .slice none 0 0] 32)) XH3.heap.size [.slice none 0 0, .slice none 0 0]) := Cells.new XH3 _ rfl _ _
                        have hkXH6 : wG.heap.size ≤ XH3.heap.size := hXH3.size
                        have HV_XH6 : Hid (SK front wG.heap.size (XH3.alloc (.cells #[.slice none 0 0, .slice none 0 0] 32)) (.slice a2 p.length d2) p) := SK.on HV_XH3.out (Keep.of ((Below.refl _ _).alloc (Nat.le_refl _) _))
                        have HS1_XH6 : Hid (SI true wG.heap.size (XH3.alloc (.cells #[.slice none 0 0, .slice none 0 0] 32)) (.slice p1 st.length st.length) st) := SI.on HS1_XH3.out (Keep.of ((Below.refl _ _).alloc (Nat.le_refl _) _))
                        have HS2_XH6 : Hid (SI true wG.heap.size (XH3.alloc (.cells #[.slice none 0 0, .slice none 0 0] 32)) (.slice p2 lo.length lo.length) lo) := SI.on HS2_XH3.out (Keep.of ((Below.refl _ _).alloc (Nat.le_refl _) _))
                        refine hK.out _ _ (At1.of hXH6) (fun hHeld => ?_)
                        clear hK K
                        generalize XH3.alloc (.cells #[.slice none 0 0, .slice none 0 0] 32) = XH6 at hXH6 CKXH6 HV_XH6 HS1_XH6 HS2_XH6  hHeld ⊢
                        clear HV_XH3 HS1_XH3 HS2_XH3
                        refine wpAnyH_ready (rs := [8]) (by kernel_rfl) (by simp) ?_
                        refine AllReadyH.cons rfl (fun K hK => ?_) AllReadyH.nil
                        go_simp
                        refine (HIF.out wG.heap.size a2 d2 p1 p2 XH6 (below_over hwG hXH6) HV_XH6.out HS1_XH6.out HS2_XH6.out).mono ?_
                        rintro e XH7 ⟨xh, yh, uh, vh, rfl, hgXH7, hbXH7⟩
                        have hXH7 : Below wG.heap.size wG XH7 := below_over hXH6 hbXH7
                        have G_XH7 : Hid (StZ XH6.heap.size XH7.heap.size XH7 (.slice xh s.1.length yh) (.slice uh s.2.length vh) s) := hgXH7
                        have CKXH7 : Hid (Cells XH7 XH3.heap.size [.slice none 0 0, .slice none 0 0]) := CKXH6.out.on hbXH7
                        have hap : XH3.heap.size < XH6.heap.size ∨ XH7.heap.size ≤ XH3.heap.size := .inl (cell_lt CKXH6.out.g0.1)
                        have hsl : wG.heap.size ≤ XH6.heap.size := hXH6.size
                        have hBD : XH6.heap.size ≤ XH7.heap.size := hbXH7.size
                        have hDY : XH7.heap.size ≤ XH7.heap.size := Nat.le_refl _
                        dsimp only
                        refine hK.out _ _ (At1.of hXH7) (fun hHeld => ?_)
                        clear hK K hbXH7 
                        clear HV_XH6 HS1_XH6 HS2_XH6
                        clear CKXH6
                        refine wpAnyH_take (i := 9) (v := ?_) rfl (by kernel_rfl) (by kernel_rfl) (by kernel_rfl) (fun _ _ _ h => h) (Or.inl ⟨by rfl, ?_⟩) hHeld ?_
                        rotate_left 1
                        · intro w' hSw
                          obtain ⟨c0, c1, c2, c3, c4, c5⟩ := HWC.out _ hSw
                          go_simp
                          try with_reducible rfl
                        simp only [Act.put, List.getElem_toArray, List.getElem_cons_zero, List.getElem_cons_succ]
                        refine wpAnyH_take (i := 10) (v := ?_) rfl (by kernel_rfl) (by kernel_rfl) (by kernel_rfl) (fun _ _ _ h => h) (Or.inl ⟨by rfl, ?_⟩) hHeld ?_
                        rotate_left 1
                        · intro w' hSw
                          obtain ⟨c0, c1, c2, c3, c4, c5⟩ := HWC.out _ hSw
                          go_simp
                          try with_reducible rfl
                        simp only [Act.put, List.getElem_toArray, List.getElem_cons_zero, List.getElem_cons_succ]
                        refine wpAnyH_take (i := 11) (v := ?_) rfl (by kernel_rfl) (by kernel_rfl) (by kernel_rfl) (fun _ _ _ h => h) (Or.inl ⟨by rfl, ?_⟩) hHeld ?_
                        rotate_left 1
                        · intro w' hSw
                          obtain ⟨c0, c1, c2, c3, c4, c5⟩ := HWC.out _ hSw
                          go_simp
                          try with_reducible rfl
                        simp only [Act.put, List.getElem_toArray, List.getElem_cons_zero, List.getElem_cons_succ]
                        refine wpAnyH_ready (rs := [13]) (by kernel_rfl) (by simp) ?_
                        refine AllReadyH.cons rfl (fun K hK => ?_) AllReadyH.nil
                        obtain ⟨m0, f0⟩ := CKXH7.out.g0
                        obtain ⟨m1, f1⟩ := CKXH7.out.g1
                        have CZ := (CKXH7.out.s0 (.slice xh s.1.length yh)).s1 (.slice uh s.2.length vh)
                        have hZ : Below wG.heap.size wG ((XH7.setCell ⟨XH3.heap.size, 0, none⟩ (.slice xh s.1.length yh)).setCell ⟨XH3.heap.size, 1, none⟩ (.slice uh s.2.length vh)) := (hXH7.setCell (p := ⟨XH3.heap.size, 0, none⟩) hkXH6 _).setCell (p := ⟨XH3.heap.size, 1, none⟩) hkXH6 _
                        have GZ' := G_XH7.out.cell2 (.slice xh s.1.length yh) (.slice uh s.2.length vh) hap
                        go_simp
                        refine hK.out _ _ (At1.of hZ) (fun hHeld => ?_)
                        clear hK K m0 m1 f0 f1
                        refine wpAnyH_ready (rs := [14]) (by kernel_rfl) (by simp) ?_
                        refine AllReadyH.cons rfl (fun K hK => ?_) AllReadyH.nil
                        go_simp
                        refine hK.out _ _ (At1.of hZ) (fun hHeld => ?_)
                        clear hK K
                        refine wpAnyH_done (by kernel_rfl) ?_ _
                        go_simp
                        refine hKK _ _ (Met.intro (hJ _ _ ?_))
                        (repeat apply Exists.intro)
                        exact ⟨⟨rfl, _, _, _, _, _, _, _, rfl, hkXH6, hsl, hBD, by simp, hap, CZ, GZ', hZ⟩, rfl⟩
                    · go_simp
                      have hXH8 : Below wG.heap.size wG (XH2.alloc (.cells #[.slice none 0 0, .slice none 0 0] 32)) := hXH2.alloc hXH2.size _
                      have CKXH8 : Hid (Cells (XH2.alloc (.cells #[.slice none 0 0, .slice none 0 0] 32)) XH2.heap.size [.slice none 0 0, .slice none 0 0]) := Cells.new XH2 _ rfl _ _
                      have hkXH8 : wG.heap.size ≤ XH2.heap.size := hXH2.size
                      have HV_XH8 : Hid (SK front wG.heap.size (XH2.alloc (.cells #[.slice none 0 0, .slice none 0 0] 32)) (.slice a2 p.length d2) p) := SK.on HV_XH2.out (Keep.of ((Below.refl _ _).alloc (Nat.le_refl _) _))
                      refine hK.out _ _ (At1.of hXH8) (fun hHeld => ?_)
                      clear hK K
                      generalize XH2.alloc (.cells #[.slice none 0 0, .slice none 0 0] 32) = XH8 at hXH8 CKXH8 HV_XH8  hHeld ⊢
                      clear HV_XH2
                      refine wpAnyH_ready (rs := [7]) (by kernel_rfl) (by simp) ?_
                      refine AllReadyH.cons rfl (fun K hK => ?_) AllReadyH.nil
                      go_simp
                      refine (toState2 st lo y1 y2 z1 z2 h1 h2 XH8 (SI.on HI1.out (Keep.of (below_over hwG hXH8))) (SI.on HI2.out (Keep.of (below_over hwG hXH8)))).mono ?_
                      rintro e XH9 ⟨p1, p2, rfl, hzXH9, hbXH9⟩
                      have hXH9 : Below wG.heap.size wG XH9 := below_over hXH8 hbXH9
                      have HV_XH9 : Hid (SK front wG.heap.size XH9 (.slice a2 p.length d2) p) := SK.on HV_XH8.out (Keep.of hbXH9)
                      have HS1_XH9 : Hid (SI true wG.heap.size XH9 (.slice p1 st.length st.length) st) := SI.weak hzXH9.1.si hXH8.size
                      have HS2_XH9 : Hid (SI true wG.heap.size XH9 (.slice p2 lo.length lo.length) lo) := SI.weak hzXH9.2.1.si hXH8.size
                      have CKXH9 : Hid (Cells XH9 XH2.heap.size [.slice none 0 0, .slice none 0 0]) := CKXH8.out.on hbXH9
                      dsimp only
                      refine hK.out _ _ (At1.of hXH9) (fun hHeld => ?_)
                      clear hK K hbXH9 
                      clear HV_XH8
                      clear CKXH8
                      refine wpAnyH_ready (rs := [8]) (by kernel_rfl) (by simp) ?_
                      refine AllReadyH.cons rfl (fun K hK => ?_) AllReadyH.nil
                      go_simp
                      refine (HIF.out wG.heap.size a2 d2 p1 p2 XH9 (below_over hwG hXH9) HV_XH9.out HS1_XH9.out HS2_XH9.out).mono ?_
                      rintro e XH10 ⟨xh, yh, uh, vh, rfl, hgXH10, hbXH10⟩
                      have hXH10 : Below wG.heap.size wG XH10 := below_over hXH9 hbXH10
                      have G_XH10 : Hid (StZ XH9.heap.size XH10.heap.size XH10 (.slice xh s.1.length yh) (.slice uh s.2.length vh) s) := hgXH10
                      have CKXH10 : Hid (Cells XH10 XH2.heap.size [.slice none 0 0, .slice none 0 0]) := CKXH9.out.on hbXH10
                      have hap : XH2.heap.size < XH9.heap.size ∨ XH10.heap.size ≤ XH2.heap.size := .inl (cell_lt CKXH9.out.g0.1)
                      have hsl : wG.heap.size ≤ XH9.heap.size := hXH9.size
                      have hBD : XH9.heap.size ≤ XH10.heap.size := hbXH10.size
                      have hDY : XH10.heap.size ≤ XH10.heap.size := Nat.le_refl _
                      dsimp only
                      refine hK.out _ _ (At1.of hXH10) (fun hHeld => ?_)
                      clear hK K hbXH10 
                      clear HV_XH9 HS1_XH9 HS2_XH9
                      clear CKXH9
                      refine wpAnyH_take (i := 9) (v := ?_) rfl (by kernel_rfl) (by kernel_rfl) (by kernel_rfl) (fun _ _ _ h => h) (Or.inl ⟨by rfl, ?_⟩) hHeld ?_
                      rotate_left 1
                      · intro w' hSw
                        obtain ⟨c0, c1, c2, c3, c4, c5⟩ := HWC.out _ hSw
                        go_simp
                        try with_reducible rfl
                      simp only [Act.put, List.getElem_toArray, List.getElem_cons_zero, List.getElem_cons_succ]
                      refine wpAnyH_take (i := 10) (v := ?_) rfl (by kernel_rfl) (by kernel_rfl) (by kernel_rfl) (fun _ _ _ h => h) (Or.inl ⟨by rfl, ?_⟩) hHeld ?_
                      rotate_left 1
                      · intro w' hSw
                        obtain ⟨c0, c1, c2, c3, c4, c5⟩ := HWC.out _ hSw
                        go_simp
                        try with_reducible rfl
                      simp only [Act.put, List.getElem_toArray, List.getElem_cons_zero, List.getElem_cons_succ]
                      refine wpAnyH_take (i := 11) (v := ?_) rfl (by kernel_rfl) (by kernel_rfl) (by kernel_rfl) (fun _ _ _ h => h) (Or.inl ⟨by rfl, ?_⟩) hHeld ?_
                      rotate_left 1
                      · intro w' hSw
                        obtain ⟨c0, c1, c2, c3, c4, c5⟩ := HWC.out _ hSw
                        go_simp
                        try with_reducible rfl
                      simp only [Act.put, List.getElem_toArray, List.getElem_cons_zero, List.getElem_cons_succ]
                      refine wpAnyH_ready (rs := [13]) (by kernel_rfl) (by simp) ?_
                      refine AllReadyH.cons rfl (fun K hK => ?_) AllReadyH.nil
                      obtain ⟨m0, f0⟩ := CKXH10.out.g0
                      obtain ⟨m1, f1⟩ := CKXH10.out.g1
                      have CZ := (CKXH10.out.s0 (.slice xh s.1.length yh)).s1 (.slice uh s.2.length vh)
                      have hZ : Below wG.heap.size wG ((XH10.setCell ⟨XH2.heap.size, 0, none⟩ (.slice xh s.1.length yh)).setCell ⟨XH2.heap.size, 1, none⟩ (.slice uh s.2.length vh)) := (hXH10.setCell (p := ⟨XH2.heap.size, 0, none⟩) hkXH8 _).setCell (p := ⟨XH2.heap.size, 1, none⟩) hkXH8 _
                      have GZ' := G_XH10.out.cell2 (.slice xh s.1.length yh) (.slice uh s.2.length vh) hap
                      go_simp
                      refine hK.out _ _ (At1.of hZ) (fun hHeld => ?_)
                      clear hK K m0 m1 f0 f1
                      refine wpAnyH_ready (rs := [14]) (by kernel_rfl) (by simp) ?_
                      refine AllReadyH.cons rfl (fun K hK => ?_) AllReadyH.nil
                      go_simp
                      refine hK.out _ _ (At1.of hZ) (fun hHeld => ?_)
                      clear hK K
                      refine wpAnyH_done (by kernel_rfl) ?_ _
                      go_simp
                      refine hKK _ _ (Met.intro (hJ _ _ ?_))
                      (repeat apply Exists.intro)
                      exact ⟨⟨rfl, _, _, _, _, _, _, _, rfl, hkXH8, hsl, hBD, by simp, hap, CZ, GZ', hZ⟩, rfl⟩
                  · go_simp
                    have hXH11 : Below wG.heap.size wG (XH1.alloc (.cells #[.slice none 0 0, .slice none 0 0] 32)) := hXH1.alloc hXH1.size _
                    have CKXH11 : Hid (Cells (XH1.alloc (.cells #[.slice none 0 0, .slice none 0 0] 32)) XH1.heap.size [.slice none 0 0, .slice none 0 0]) := Cells.new XH1 _ rfl _ _
                    have hkXH11 : wG.heap.size ≤ XH1.heap.size := hXH1.size
                    have HV_XH11 : Hid (SK front wG.heap.size (XH1.alloc (.cells #[.slice none 0 0, .slice none 0 0] 32)) (.slice a2 p.length d2) p) := SK.on HV_XH1.out (Keep.of ((Below.refl _ _).alloc (Nat.le_refl _) _))
                    refine hK.out _ _ (At1.of hXH11) (fun hHeld => ?_)
                    clear hK K
                    generalize XH1.alloc (.cells #[.slice none 0 0, .slice none 0 0] 32) = XH11 at hXH11 CKXH11 HV_XH11  hHeld ⊢
                    clear HV_XH1
                    refine wpAnyH_ready (rs := [5]) (by kernel_rfl) (by simp) ?_
                    refine AllReadyH.cons rfl (fun K hK => ?_) AllReadyH.nil
                    go_simp
                    refine (St.toInsn i.1 i.2.1 i.2.2 XH11).mono ?_
                    rintro e XH12 ⟨rfl, hbXH12⟩
                    have hXH12 : Below wG.heap.size wG XH12 := below_over hXH11 hbXH12
                    have HV_XH12 : Hid (SK front wG.heap.size XH12 (.slice a2 p.length d2) p) := SK.on HV_XH11.out (Keep.of hbXH12)
                    have CKXH12 : Hid (Cells XH12 XH1.heap.size [.slice none 0 0, .slice none 0 0]) := CKXH11.out.on hbXH12
                    dsimp only
                    refine hK.out _ _ (At1.of hXH12) (fun hHeld => ?_)
                    clear hK K hbXH12 
                    clear HV_XH11
                    clear CKXH11
                    refine wpAnyH_ready (rs := [7]) (by kernel_rfl) (by simp) ?_
                    refine AllReadyH.cons rfl (fun K hK => ?_) AllReadyH.nil
                    go_simp
                    refine (toState2 st lo y1 y2 z1 z2 h1 h2 XH12 (SI.on HI1.out (Keep.of (below_over hwG hXH12))) (SI.on HI2.out (Keep.of (below_over hwG hXH12)))).mono ?_
                    rintro e XH13 ⟨p1, p2, rfl, hzXH13, hbXH13⟩
                    have hXH13 : Below wG.heap.size wG XH13 := below_over hXH12 hbXH13
                    have HV_XH13 : Hid (SK front wG.heap.size XH13 (.slice a2 p.length d2) p) := SK.on HV_XH12.out (Keep.of hbXH13)
                    have HS1_XH13 : Hid (SI true wG.heap.size XH13 (.slice p1 st.length st.length) st) := SI.weak hzXH13.1.si hXH12.size
                    have HS2_XH13 : Hid (SI true wG.heap.size XH13 (.slice p2 lo.length lo.length) lo) := SI.weak hzXH13.2.1.si hXH12.size
                    have CKXH13 : Hid (Cells XH13 XH1.heap.size [.slice none 0 0, .slice none 0 0]) := CKXH12.out.on hbXH13
                    dsimp only
                    refine hK.out _ _ (At1.of hXH13) (fun hHeld => ?_)
                    clear hK K hbXH13 
                    clear HV_XH12
                    clear CKXH12
                    refine wpAnyH_ready (rs := [8]) (by kernel_rfl) (by simp) ?_
                    refine AllReadyH.cons rfl (fun K hK => ?_) AllReadyH.nil
                    go_simp
                    refine (HIF.out wG.heap.size a2 d2 p1 p2 XH13 (below_over hwG hXH13) HV_XH13.out HS1_XH13.out HS2_XH13.out).mono ?_
                    rintro e XH14 ⟨xh, yh, uh, vh, rfl, hgXH14, hbXH14⟩
                    have hXH14 : Below wG.heap.size wG XH14 := below_over hXH13 hbXH14
                    have G_XH14 : Hid (StZ XH13.heap.size XH14.heap.size XH14 (.slice xh s.1.length yh) (.slice uh s.2.length vh) s) := hgXH14
                    have CKXH14 : Hid (Cells XH14 XH1.heap.size [.slice none 0 0, .slice none 0 0]) := CKXH13.out.on hbXH14
                    have hap : XH1.heap.size < XH13.heap.size ∨ XH14.heap.size ≤ XH1.heap.size := .inl (cell_lt CKXH13.out.g0.1)
                    have hsl : wG.heap.size ≤ XH13.heap.size := hXH13.size
                    have hBD : XH13.heap.size ≤ XH14.heap.size := hbXH14.size
                    have hDY : XH14.heap.size ≤ XH14.heap.size := Nat.le_refl _
                    dsimp only
                    refine hK.out _ _ (At1.of hXH14) (fun hHeld => ?_)
                    clear hK K hbXH14 
                    clear HV_XH13 HS1_XH13 HS2_XH13
                    clear CKXH13
                    refine wpAnyH_take (i := 9) (v := ?_) rfl (by kernel_rfl) (by kernel_rfl) (by kernel_rfl) (fun _ _ _ h => h) (Or.inl ⟨by rfl, ?_⟩) hHeld ?_
                    rotate_left 1
                    · intro w' hSw
                      obtain ⟨c0, c1, c2, c3, c4, c5⟩ := HWC.out _ hSw
                      go_simp
                      try with_reducible rfl
                    simp only [Act.put, List.getElem_toArray, List.getElem_cons_zero, List.getElem_cons_succ]
                    refine wpAnyH_take (i := 10) (v := ?_) rfl (by kernel_rfl) (by kernel_rfl) (by kernel_rfl) (fun _ _ _ h => h) (Or.inl ⟨by rfl, ?_⟩) hHeld ?_
                    rotate_left 1
                    · intro w' hSw
                      obtain ⟨c0, c1, c2, c3, c4, c5⟩ := HWC.out _ hSw
                      go_simp
                      try with_reducible rfl
                    simp only [Act.put, List.getElem_toArray, List.getElem_cons_zero, List.getElem_cons_succ]
                    refine wpAnyH_take (i := 11) (v := ?_) rfl (by kernel_rfl) (by kernel_rfl) (by kernel_rfl) (fun _ _ _ h => h) (Or.inl ⟨by rfl, ?_⟩) hHeld ?_
                    rotate_left 1
                    · intro w' hSw
                      obtain ⟨c0, c1, c2, c3, c4, c5⟩ := HWC.out _ hSw
                      go_simp
                      try with_reducible rfl
                    simp only [Act.put, List.getElem_toArray, List.getElem_cons_zero, List.getElem_cons_succ]
                    refine wpAnyH_ready (rs := [13]) (by kernel_rfl) (by simp) ?_
                    refine AllReadyH.cons rfl (fun K hK => ?_) AllReadyH.nil
                    obtain ⟨m0, f0⟩ := CKXH14.out.g0
                    obtain ⟨m1, f1⟩ := CKXH14.out.g1
                    have CZ := (CKXH14.out.s0 (.slice xh s.1.length yh)).s1 (.slice uh s.2.length vh)
                    have hZ : Below wG.heap.size wG ((XH14.setCell ⟨XH1.heap.size, 0, none⟩ (.slice xh s.1.length yh)).setCell ⟨XH1.heap.size, 1, none⟩ (.slice uh s.2.length vh)) := (hXH14.setCell (p := ⟨XH1.heap.size, 0, none⟩) hkXH11 _).setCell (p := ⟨XH1.heap.size, 1, none⟩) hkXH11 _
                    have GZ' := G_XH14.out.cell2 (.slice xh s.1.length yh) (.slice uh s.2.length vh) hap
                    go_simp
                    refine hK.out _ _ (At1.of hZ) (fun hHeld => ?_)
                    clear hK K m0 m1 f0 f1
                    refine wpAnyH_ready (rs := [14]) (by kernel_rfl) (by simp) ?_
                    refine AllReadyH.cons rfl (fun K hK => ?_) AllReadyH.nil
                    go_simp
                    refine hK.out _ _ (At1.of hZ) (fun hHeld => ?_)
                    clear hK K
                    refine wpAnyH_done (by kernel_rfl) ?_ _
                    go_simp
                    refine hKK _ _ (Met.intro (hJ _ _ ?_))
                    (repeat apply Exists.intro)
                    exact ⟨⟨rfl, _, _, _, _, _, _, _, rfl, hkXH11, hsl, hBD, by simp, hap, CZ, GZ', hZ⟩, rfl⟩
                · go_simp
                  have hXH15 : Below wG.heap.size wG (Q0.alloc (.cells #[.slice none 0 0, .slice none 0 0] 32)) := hD0.alloc hD0.size _
                  have CKXH15 : Hid (Cells (Q0.alloc (.cells #[.slice none 0 0, .slice none 0 0] 32)) Q0.heap.size [.slice none 0 0, .slice none 0 0]) := Cells.new Q0 _ rfl _ _
                  have hkXH15 : wG.heap.size ≤ Q0.heap.size := hD0.size
                  refine hK.out _ _ (At1.of hXH15) (fun hHeld => ?_)
                  clear hK K
                  generalize Q0.alloc (.cells #[.slice none 0 0, .slice none 0 0] 32) = XH15 at hXH15 CKXH15   hHeld ⊢
                  refine wpAnyH_ready (rs := [1]) (by kernel_rfl) (by simp) ?_
                  refine AllReadyH.cons rfl (fun K hK => ?_) AllReadyH.nil
                  go_simp
                  refine (toProgram p a cap HSM.out XH15 (SK.on HIN.out (Keep.of (below_over hwG hXH15)))).mono ?_
                  rintro e XH16 ⟨vXH16, rfl, hvXH16, hbXH16⟩
                  obtain ⟨a2, d2, rfl⟩ := hvXH16.form
                  have hXH16 : Below wG.heap.size wG XH16 := below_over hXH15 hbXH16
                  have HV_XH16 : Hid (SK front wG.heap.size XH16 (.slice a2 p.length d2) p) := SK.weak hvXH16 hXH15.size
                  have CKXH16 : Hid (Cells XH16 Q0.heap.size [.slice none 0 0, .slice none 0 0]) := CKXH15.out.on hbXH16
                  dsimp only
                  refine hK.out _ _ (At1.of hXH16) (fun hHeld => ?_)
                  clear hK K hbXH16 
                  clear CKXH15
                  refine wpAnyH_ready (rs := [5]) (by kernel_rfl) (by simp) ?_
                  refine AllReadyH.cons rfl (fun K hK => ?_) AllReadyH.nil
                  go_simp
                  refine (St.toInsn i.1 i.2.1 i.2.2 XH16).mono ?_
                  rintro e XH17 ⟨rfl, hbXH17⟩
                  have hXH17 : Below wG.heap.size wG XH17 := below_over hXH16 hbXH17
                  have HV_XH17 : Hid (SK front wG.heap.size XH17 (.slice a2 p.length d2) p) := SK.on HV_XH16.out (Keep.of hbXH17)
                  have CKXH17 : Hid (Cells XH17 Q0.heap.size [.slice none 0 0, .slice none 0 0]) := CKXH16.out.on hbXH17
                  dsimp only
                  refine hK.out _ _ (At1.of hXH17) (fun hHeld => ?_)
                  clear hK K hbXH17 
                  clear HV_XH16
                  clear CKXH16
                  refine wpAnyH_ready (rs := [7]) (by kernel_rfl) (by simp) ?_
                  refine AllReadyH.cons rfl (fun K hK => ?_) AllReadyH.nil
                  go_simp
                  refine (toState2 st lo y1 y2 z1 z2 h1 h2 XH17 (SI.on HI1.out (Keep.of (below_over hwG hXH17))) (SI.on HI2.out (Keep.of (below_over hwG hXH17)))).mono ?_
                  rintro e XH18 ⟨p1, p2, rfl, hzXH18, hbXH18⟩
                  have hXH18 : Below wG.heap.size wG XH18 := below_over hXH17 hbXH18
                  have HV_XH18 : Hid (SK front wG.heap.size XH18 (.slice a2 p.length d2) p) := SK.on HV_XH17.out (Keep.of hbXH18)
                  have HS1_XH18 : Hid (SI true wG.heap.size XH18 (.slice p1 st.length st.length) st) := SI.weak hzXH18.1.si hXH17.size
                  have HS2_XH18 : Hid (SI true wG.heap.size XH18 (.slice p2 lo.length lo.length) lo) := SI.weak hzXH18.2.1.si hXH17.size
                  have CKXH18 : Hid (Cells XH18 Q0.heap.size [.slice none 0 0, .slice none 0 0]) := CKXH17.out.on hbXH18
                  dsimp only
                  refine hK.out _ _ (At1.of hXH18) (fun hHeld => ?_)
                  clear hK K hbXH18 
                  clear HV_XH17
                  clear CKXH17
                  refine wpAnyH_ready (rs := [8]) (by kernel_rfl) (by simp) ?_
                  refine AllReadyH.cons rfl (fun K hK => ?_) AllReadyH.nil
                  go_simp
                  refine (HIF.out wG.heap.size a2 d2 p1 p2 XH18 (below_over hwG hXH18) HV_XH18.out HS1_XH18.out HS2_XH18.out).mono ?_
                  rintro e XH19 ⟨xh, yh, uh, vh, rfl, hgXH19, hbXH19⟩
                  have hXH19 : Below wG.heap.size wG XH19 := below_over hXH18 hbXH19
                  have G_XH19 : Hid (StZ XH18.heap.size XH19.heap.size XH19 (.slice xh s.1.length yh) (.slice uh s.2.length vh) s) := hgXH19
                  have CKXH19 : Hid (Cells XH19 Q0.heap.size [.slice none 0 0, .slice none 0 0]) := CKXH18.out.on hbXH19
                  have hap : Q0.heap.size < XH18.heap.size ∨ XH19.heap.size ≤ Q0.heap.size := .inl (cell_lt CKXH18.out.g0.1)
                  have hsl : wG.heap.size ≤ XH18.heap.size := hXH18.size
                  have hBD : XH18.heap.size ≤ XH19.heap.size := hbXH19.size
                  have hDY : XH19.heap.size ≤ XH19.heap.size := Nat.le_refl _
                  dsimp only
                  refine hK.out _ _ (At1.of hXH19) (fun hHeld => ?_)
                  clear hK K hbXH19 
                  clear HV_XH18 HS1_XH18 HS2_XH18
                  clear CKXH18
                  refine wpAnyH_take (i := 9) (v := ?_) rfl (by kernel_rfl) (by kernel_rfl) (by kernel_rfl) (fun _ _ _ h => h) (Or.inl ⟨by rfl, ?_⟩) hHeld ?_
                  rotate_left 1
                  · intro w' hSw
                    obtain ⟨c0, c1, c2, c3, c4, c5⟩ := HWC.out _ hSw
                    go_simp
                    try with_reducible rfl
                  simp only [Act.put, List.getElem_toArray, List.getElem_cons_zero, List.getElem_cons_succ]
                  refine wpAnyH_take (i := 10) (v := ?_) rfl (by kernel_rfl) (by kernel_rfl) (by kernel_rfl) (fun _ _ _ h => h) (Or.inl ⟨by rfl, ?_⟩) hHeld ?_
                  rotate_left 1
                  · intro w' hSw
                    obtain ⟨c0, c1, c2, c3, c4, c5⟩ := HWC.out _ hSw
                    go_simp
                    try with_reducible rfl
                  simp only [Act.put, List.getElem_toArray, List.getElem_cons_zero, List.getElem_cons_succ]
                  refine wpAnyH_take (i := 11) (v := ?_) rfl (by kernel_rfl) (by kernel_rfl) (by kernel_rfl) (fun _ _ _ h => h) (Or.inl ⟨by rfl, ?_⟩) hHeld ?_
                  rotate_left 1
                  · intro w' hSw
                    obtain ⟨c0, c1, c2, c3, c4, c5⟩ := HWC.out _ hSw
                    go_simp
                    try with_reducible rfl
                  simp only [Act.put, List.getElem_toArray, List.getElem_cons_zero, List.getElem_cons_succ]
                  refine wpAnyH_ready (rs := [13]) (by kernel_rfl) (by simp) ?_
                  refine AllReadyH.cons rfl (fun K hK => ?_) AllReadyH.nil
                  obtain ⟨m0, f0⟩ := CKXH19.out.g0
                  obtain ⟨m1, f1⟩ := CKXH19.out.g1
                  have CZ := (CKXH19.out.s0 (.slice xh s.1.length yh)).s1 (.slice uh s.2.length vh)
                  have hZ : Below wG.heap.size wG ((XH19.setCell ⟨Q0.heap.size, 0, none⟩ (.slice xh s.1.length yh)).setCell ⟨Q0.heap.size, 1, none⟩ (.slice uh s.2.length vh)) := (hXH19.setCell (p := ⟨Q0.heap.size, 0, none⟩) hkXH15 _).setCell (p := ⟨Q0.heap.size, 1, none⟩) hkXH15 _
                  have GZ' := G_XH19.out.cell2 (.slice xh s.1.length yh) (.slice uh s.2.length vh) hap
                  go_simp
                  refine hK.out _ _ (At1.of hZ) (fun hHeld => ?_)
                  clear hK K m0 m1 f0 f1
                  refine wpAnyH_ready (rs := [14]) (by kernel_rfl) (by simp) ?_
                  refine AllReadyH.cons rfl (fun K hK => ?_) AllReadyH.nil
                  go_simp
                  refine hK.out _ _ (At1.of hZ) (fun hHeld => ?_)
                  clear hK K
                  refine wpAnyH_done (by kernel_rfl) ?_ _
                  go_simp
                  refine hKK _ _ (Met.intro (hJ _ _ ?_))
                  (repeat apply Exists.intro)
                  exact ⟨⟨rfl, _, _, _, _, _, _, _, rfl, hkXH15, hsl, hBD, by simp, hap, CZ, GZ', hZ⟩, rfl⟩
              case rest =>
                clear HWC
                obtain ⟨rfl, kH, BH, DH, xh, yh, uh, vh, rfl, hkH0, hBH0, hBDH, hDH, hapH, hcH, hgH, hbH⟩ := hcut
                rename World => UI
                have BHI : Hid (Cells UI kH [.slice xh s.1.length yh, .slice uh s.2.length vh]) := hcH
                have GHI : Hid (StZ BH DH UI (.slice xh s.1.length yh) (.slice uh s.2.length vh) s) := hgH
                have hwI : Below w.heap.size w UI := below_over hwG hbH
                have hWI : Below W.heap.size W UI := below_over hWG hbH
                have BSI : Hid (Cells UI kS [.slice xs s.1.length ys, .slice us s.2.length vs]) := BSG.out.on hbH
                have GSI : Hid (StZ BS DS UI (.slice xs s.1.length ys) (.slice us s.2.length vs) s) := GSG.out.on hbH
                have BII : Hid (Cells UI kI [.slice xi s.1.length yi, .slice ui s.2.length vi]) := BIG.out.on hbH
                have GMI : Hid (StZ BI DI UI (.slice xi s.1.length yi) (.slice ui s.2.length vi) (stMarks 1 s)) := GMG.out.on hbH
                clear BSG GSG BIG GMG hwG hWG
                obtain ⟨i0, _⟩ := BHI.out.g0
                obtain ⟨i1, _⟩ := BHI.out.g1
                obtain ⟨s0, _⟩ := BSI.out.g0
                obtain ⟨s1, _⟩ := BSI.out.g1
                clear hcH hgH hbH hapH
                go_wp2_with fail
                clear i0 i1 s0 s1
                refine (eqStateZ BH DH BS DS s h8 h9 xh uh xs us yh vh ys vs UI GHI.out GSI.out).mono ?_
                rintro e wJ ⟨rfl, hbJ⟩
                have hwJ : Below w.heap.size w wJ := below_over hwI hbJ
                have hWJ : Below W.heap.size W wJ := below_over hWI hbJ
                have BIJ : Hid (Cells wJ kI [.slice xi s.1.length yi, .slice ui s.2.length vi]) := BII.out.on hbJ
                have GMJ : Hid (StZ BI DI wJ (.slice xi s.1.length yi) (.slice ui s.2.length vi) (stMarks 1 s)) := GMI.out.on hbJ
                clear BII GMI hwI hWI
                obtain ⟨j0, _⟩ := BIJ.out.g0
                obtain ⟨j1, _⟩ := BIJ.out.g1
                clear hbJ
                go_wp2_with fail
                refine (heldStateZ BI DI 1 s h8 h9 (by have h1 := HQQ.out; have h2 := HMS.out; omega) xi ui yi vi wJ GMJ.out).mono ?_
                rw [HQQ.out]
                rintro e wK ⟨rfl, hbK⟩
                have hwK : Below w.heap.size w wK := below_over hwJ hbK
                clear hbK j0 j1
                go_wp2
                go_ret
                exact ⟨rfl, hwK⟩
    · rw [szR_no (Int.not_le.1 hst)]
      rintro e w2 ⟨rfl, hb2⟩
      have hw2 : Below w.heap.size w w2 := below_over hwW (below_over hW1 hb2)
      clear hb2 s0 s1
      go_wp2
      go_ret
      exact ⟨rfl, hw2⟩
  · have HSZ : Hid (szR (szP p) 1048576 = -1) := szR_no (Int.not_le.1 hsz)
    go_enter Tryz.func3, Tryz.ntmps3
    go_wp2_with fail
    rw [← hW]
    clear hW
    refine (szProgram wide 0 a cap p HS.out W (SK.on HIN.out (Keep.of hwW))).mono ?_
    rw [HSZ.out]
    rintro e w1 ⟨rfl, hb1⟩
    have hw1 : Below w.heap.size w w1 := below_over hwW hb1
    clear hb1
    go_wp2
    go_ret
    exact ⟨rfl, hw1⟩
end Pg
end Go.Proofs.YtfdlljdljefkfaaGreatDoor

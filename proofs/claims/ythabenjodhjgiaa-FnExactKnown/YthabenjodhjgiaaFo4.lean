/- Contracts: the specification's Folded. -/
import Derived.Test.YthabenjodhjgiaaFo3
import Derived.Deep.RegionHeld3
namespace Go.Proofs.Ythabenjodhjgiaa
namespace Pg
open Go.ChangeShapes Go.WideShapes Go.ChangeAt Go.RowKit St Wd

theorem foldB_three {code : List Tx.Ins} {k : Nat} (h : (decide (4 ≤ (insF code (k + 2)).1) && decide ((insF code (k + 2)).1 ≤ 7)) = false) : foldB code k = false := by
  unfold foldB
  have : ¬ (4 ≤ (insF code (k + 2)).1 ∧ (insF code (k + 2)).1 ≤ 7) := fun hh => by simp [hh.1, hh.2] at h
  simp [this]
theorem foldB_zero {code : List Tx.Ins} {k : Nat} (h : (insF code (k + 2)).1 = 7) (h' : (insF code (k + 1)).2.1 = 0) : foldB code k = false := by
  unfold foldB
  simp [h, h']
theorem foldB_yes {code : List Tx.Ins} {k : Nat} (h : k + 3 < code.length) (h1 : ldB code code.length (k + 1) = false) (h2 : ldB code code.length (k + 2) = false) (h3 : (insF code k).1 = 1) (h4 : (insF code (k + 1)).1 = 1)
    (h5 : (decide (4 ≤ (insF code (k + 2)).1) && decide ((insF code (k + 2)).1 ≤ 7)) = true) (h6 : ¬ ((insF code (k + 2)).1 = 7 ∧ (insF code (k + 1)).2.1 = 0)) : foldB code k = true := by
  rw [foldB_is h h1 h2 h3 h4]
  unfold okW
  simp only [Bool.and_eq_true, decide_eq_true_eq] at h5
  simp only [h5, h6]
  simp
/-- One step of a row of one's own written anew: the row, the room, nothing below. -/
theorem set_one {B : Nat} {u w : World} {g k n : Nat} {l : List Tx.Ins} (hn : l.length = n) (hroom : Room w g (n * 3)) (hr : Row w g 0 l) (hb : Below B u w) (hB : B ≤ g) (x : Tx.Ins) :
    Row (((w.setCell ⟨g, k * 3, none⟩ (.int .i64 x.1)).setCell ⟨g, k * 3 + 1, none⟩ (.int .i64 x.2.1)).setCell ⟨g, k * 3 + 2, none⟩ (.int .i64 x.2.2)) g 0 (l.set k x) ∧
      Room (((w.setCell ⟨g, k * 3, none⟩ (.int .i64 x.1)).setCell ⟨g, k * 3 + 1, none⟩ (.int .i64 x.2.1)).setCell ⟨g, k * 3 + 2, none⟩ (.int .i64 x.2.2)) g (n * 3) ∧
      Below B u (((w.setCell ⟨g, k * 3, none⟩ (.int .i64 x.1)).setCell ⟨g, k * 3 + 1, none⟩ (.int .i64 x.2.1)).setCell ⟨g, k * 3 + 2, none⟩ (.int .i64 x.2.2)) := by
  subst hn
  exact ⟨row_set3 hroom hr x, room_setC (room_setC (room_setC hroom _ _) _ _) _ _, ((hb.setCell hB _).setCell hB _).setCell hB _⟩
set_option maxRecDepth 100000 in
set_option maxHeartbeats 4000000 in
theorem l10Folded_at (g cap : Nat) (l : List Tx.Ins) (hok : Lay.codeOk l = true) (w : World) (hr : Row w g 0 l) :
    Calls Try.prog 63 #[.slice (some ⟨g, 0, none⟩) l.length cap] w fun e w' => ∃ x, e = .returned (.tuple #[x, .bool (foldsF l).2]) ∧ Got w.heap.size w' x (foldsF l).1 ∧ Below w.heap.size w w' := by
  have hl40 := (Lay.ok_len hok).2
  have HOK : Hid (Lay.codeOk l = true) := hok
  have HR : Hid (Row w g 0 l) := hr
  have HRA : Hid (Row (w.alloc (.cells #[] 43)) g 0 l) := hr.on ((Below.refl _ _).alloc (Nat.le_refl _) _)
  clear hr hok
  go_enter Try.func63, Try.ntmps63
  go_wp2_with (at_builtin; refine wpList_growC rfl _ _ rfl w.heap.size _ [] rfl (growC_nil w) (by simp) g 0 cap l rfl HRA.out (by simp; omega) ?_)
  intro v w1 hown hgrow hb
  have hb1 : Below w.heap.size w w1 := ((Below.refl _ _).alloc (Nat.le_refl _) _).trans hb
  have hown' : GrowC w.heap.size w1 v l := by simpa using hown
  obtain ⟨gv, cv, rfl, hcv⟩ := hown'.form2
  have HV : Hid (GrowC w.heap.size w1 (.slice (some ⟨gv, 0, none⟩) l.length cv) l) := hown'
  clear hown hgrow hb hown' HRA
  go_wp2_with fail
  refine (l9Leaders_at g cap l HOK.out w1 (HR.out.on hb1)).mono ?_
  rintro e w2 ⟨vl, rfl, hls, hb2⟩
  obtain ⟨gl, cl, rfl, hcl, hgl, hrl⟩ := hls
  have HRL : Hid (IRow w2 gl 0 (risL (ldB l l.length) 40)) := hrl
  have hw2 : Below w.heap.size w w2 := below_over hb1 hb2
  have HV2 : Hid (GrowC w.heap.size w2 (.slice (some ⟨gv, 0, none⟩) l.length cv) l) := HV.out.on hb2
  have hlr := risL_len (ldB l l.length) 40
  have R2 : Hid (Row w2 g 0 l) := HR.out.on hw2
  clear hb1 hb2 hrl HV
  go_wp2_with fail
  go_loopw [6] (fun i wr => ∃ k : Nat, k ≤ l.length ∧ i = .int .i64 (k : Int) ∧ Hid (∀ i, i < k → foldB l i = false) ∧ wr = w2) (fun i _ => l.length - (intOf i).toNat)
  case atStart => exact ⟨0, Nat.zero_le _, rfl, fun i hi => absurd hi (Nat.not_lt_zero _), rfl⟩
  case round =>
    obtain ⟨k, hk, rfl, hno, rfl⟩ := hrel
    by_cases h3 : k + 3 < l.length
    · have h3i : (k : Int) + 3 < (l.length : Int) := by omega
      have hki : (k : Int) < (l.length : Int) := by omega
      have HNO : Hid (foldB l k = false → ∀ i, i < k + 1 → foldB l i = false) := fun hf i hi => by
        by_cases e : i = k
        · rw [e]; exact hf
        · exact hno.out i (by omega)
      obtain ⟨d0, d1, d2⟩ := R2.out k _ (ins_is (by omega))
      obtain ⟨e0, e1, e2⟩ := R2.out (k + 1) _ (ins_is (by omega))
      obtain ⟨f0, f1, f2⟩ := R2.out (k + 2) _ (ins_is (by omega))
      simp only [Nat.zero_add] at d0 d1 e0 e1 f0
      clear d2 e2 f1 f2
      by_cases h5 : (insF l k).1 = 1
      · rw [h5] at d0
        by_cases h6 : (insF l (k + 1)).1 = 1
        · rw [h6] at e0
          cases h7 : (decide (4 ≤ (insF l (k + 2)).1) && decide ((insF l (k + 2)).1 ≤ 7))
          · have HN := HNO.out (foldB_three h7)
            have HN' : Hid (∀ i, i < k + 1 → foldB l i = false) := HN
            clear HN HNO hno h5 h6
            generalize (insF l (k + 2)).1 = op at *
            go_wp2_with fail
            refine (l1In op 4 7 wr).mono ?_
            rw [h7]
            rintro e _ ⟨rfl, rfl⟩
            clear h7
            go_wp2
            go_roundw
            case rel => exact ⟨k + 1, by omega, by go_num, HN'.out, by simp⟩
            case measure => simp [intOf]; omega
          · by_cases h8 : (insF l (k + 2)).1 = 7 ∧ (insF l (k + 1)).2.1 = 0
            · have HN' : Hid (∀ i, i < k + 1 → foldB l i = false) := HNO.out (foldB_zero h8.1 h8.2)
              rw [h8.1] at f0 h7
              rw [h8.2] at e1
              clear HNO hno h5 h6 h8
              go_wp2_with fail
              refine (l1In 7 4 7 wr).mono ?_
              rw [h7]
              rintro e _ ⟨rfl, rfl⟩
              clear h7
              go_wp2
              go_roundw
              case rel => exact ⟨k + 1, by omega, by go_num, HN'.out, by simp⟩
              case measure => simp [intOf]; omega
            · have HLD1 : Hid (decide ((k : Int) + 1 ∈ risL (ldB l l.length) 40) = ldB l l.length (k + 1)) := by
                have := ld_has (code := l) (k + 1) (by omega)
                have hcast : (((k + 1 : Nat)) : Int) = (k : Int) + 1 := by omega
                rw [hcast] at this
                exact this
              have HLD2 : Hid (decide ((k : Int) + 2 ∈ risL (ldB l l.length) 40) = ldB l l.length (k + 2)) := by
                have := ld_has (code := l) (k + 2) (by omega)
                have hcast : (((k + 2 : Nat)) : Int) = (k : Int) + 2 := by omega
                rw [hcast] at this
                exact this
              have HY : Hid (ldB l l.length (k + 1) = false → ldB l l.length (k + 2) = false → foldB l k = true) := fun a b => foldB_yes h3 a b h5 h6 h7 h8
              have HOUT : Hid (outI l k = sumS (insF l (k + 2)).1 (insF l k).2.1 (insF l (k + 1)).2.1) := rfl
              have ha := push_ok HOK.out (k := k) (by omega) h5
              have hb := push_ok HOK.out (k := k + 1) (by omega) h6
              have hop : (insF l (k + 2)).1 = 4 ∨ (insF l (k + 2)).1 = 5 ∨ (insF l (k + 2)).1 = 6 ∨ (insF l (k + 2)).1 = 7 := by
                simp only [Bool.and_eq_true, decide_eq_true_eq] at h7; omega
              have HZ : Hid ((insF l (k + 2)).1 = 7 → (insF l (k + 1)).2.1 ≠ 0) := fun a b => h8 ⟨a, b⟩
              have h8' : (((insF l (k + 2)).1 == 7) && ((insF l (k + 1)).2.1 == 0)) = false := by
                cases hh : (((insF l (k + 2)).1 == 7) && ((insF l (k + 1)).2.1 == 0))
                · rfl
                · simp only [Bool.and_eq_true, beq_iff_eq] at hh; exact absurd hh h8
              have HSUM : Hid (∀ u, Calls Try.prog 75 #[.int .i64 (insF l (k + 2)).1, .int .i64 (insF l k).2.1, .int .i64 (insF l (k + 1)).2.1] u fun e w' => e = .returned (.int .i64 (outI l k)) ∧ u = w') := fun u => l8Sum_at _ _ _ hop ha hb HZ.out u
              clear h5 h6 h8 ha hb hop HZ HOUT
              generalize hout : outI l k = out at *
              have HOU : Hid (outI l k = out) := hout
              clear hout
              generalize (insF l (k + 2)).1 = op at *
              generalize (insF l k).2.1 = va at *
              generalize (insF l (k + 1)).2.1 = vb at *
              go_wp2_with fail
              refine (l1In op 4 7 wr).mono ?_
              rw [h7]
              rintro e _ ⟨rfl, rfl⟩
              clear h7
              have hq : (op == 7) = false ∨ ((op == 7) = true ∧ (vb == 0) = false) := by
                cases ho : (op == 7)
                · exact .inl rfl
                · rw [ho] at h8'; exact .inr ⟨rfl, by simpa using h8'⟩
              clear h8'
              rcases hq with hq | ⟨hq, hq2⟩
              all_goals
                go_wp2_with fail
                refine (l1Has gl cl (risL (ldB l l.length) 40) ((k : Int) + 1) (by omega) wr HRL.out).mono ?_
                rw [HLD1.out]
                rintro e wr ⟨rfl, rfl⟩
                cases hL1 : ldB l l.length (k + 1)
                · go_wp2_with fail
                  refine (l1Has gl cl (risL (ldB l l.length) 40) ((k : Int) + 2) (by omega) wr HRL.out).mono ?_
                  rw [HLD2.out]
                  rintro e wr ⟨rfl, rfl⟩
                  cases hL2 : ldB l l.length (k + 2)
                  · have HF : Hid (foldsF l = (foldAt l k, true)) := folds_some hno.out (HY.out hL1 hL2)
                    obtain ⟨g', c', he, hg1, hg2, hgr, hgm⟩ := HV2.out.got
                    obtain ⟨rfl, rfl⟩ : gv = g' ∧ cv = c' := by simpa using he
                    have HGR : Hid (Row wr gv 0 l) := hgr
                    have HGM : Hid (Room wr gv (l.length * 3)) := hgm
                    clear hgr hgm he HV2 hL1 hL2 HY hno HNO HLD1 HLD2
                    obtain ⟨⟨x0, s0⟩, z0⟩ := HGM.out (k * 3) (by omega)
                    obtain ⟨⟨x1, s1⟩, z1⟩ := HGM.out (k * 3 + 1) (by omega)
                    obtain ⟨⟨x2, s2⟩, z2⟩ := HGM.out (k * 3 + 2) (by omega)
                    have hwr : IntKind.i64.wrap ((k : Int) + 1) = (k : Int) + 1 := by simp [IntKind.wrap, IntKind.signed, IntKind.bits]; omega
                    have hk1 : (0 : Int) ≤ (k : Int) + 1 ∧ (k : Int) + 1 < (l.length : Int) := by omega
                    have htn : ((k : Int) + 1).toNat = k + 1 := by omega
                    go_upto_region 8 with fail
                    go_region_law (go_simp; go_at_call 75; refine (HSUM.out _).mono ?_; rintro e _ ⟨rfl, rfl⟩; dsimp only)
                    all_goals
                      obtain ⟨q1, q2, q3⟩ := set_one (k := k) rfl HGM.out HGR.out hw2 hg1 (1, out, 0)
                      dsimp only at q1 q2 q3
                      have hsz : gv < (((wr.setCell ⟨gv, k * 3, none⟩ (.int .i64 1)).setCell ⟨gv, k * 3 + 1, none⟩ (.int .i64 out)).setCell ⟨gv, k * 3 + 2, none⟩ (.int .i64 0)).drew.heap.size := by simpa using hg2
                      have Q1 : Hid (Row (((wr.setCell ⟨gv, k * 3, none⟩ (.int .i64 1)).setCell ⟨gv, k * 3 + 1, none⟩ (.int .i64 out)).setCell ⟨gv, k * 3 + 2, none⟩ (.int .i64 0)).drew gv 0 (l.set k (1, out, 0))) := q1
                      have Q2 : Hid (Room (((wr.setCell ⟨gv, k * 3, none⟩ (.int .i64 1)).setCell ⟨gv, k * 3 + 1, none⟩ (.int .i64 out)).setCell ⟨gv, k * 3 + 2, none⟩ (.int .i64 0)).drew gv (l.length * 3)) := q2
                      have Q3 : Below w.heap.size w (((wr.setCell ⟨gv, k * 3, none⟩ (.int .i64 1)).setCell ⟨gv, k * 3 + 1, none⟩ (.int .i64 out)).setCell ⟨gv, k * 3 + 2, none⟩ (.int .i64 0)).drew := q3.drew
                      clear q1 q2 q3 HGM HGR s0 s1 s2 z0 z1 z2 d0 d1 e0 e1 f0 HSUM hwr htn hg2
                      generalize (((wr.setCell ⟨gv, k * 3, none⟩ (.int .i64 1)).setCell ⟨gv, k * 3 + 1, none⟩ (.int .i64 out)).setCell ⟨gv, k * 3 + 2, none⟩ (.int .i64 0)).drew = W1 at *
                      obtain ⟨⟨x3, s3⟩, z3⟩ := Q2.out ((k + 1) * 3) (by omega)
                      obtain ⟨⟨x4, s4⟩, z4⟩ := Q2.out ((k + 1) * 3 + 1) (by omega)
                      obtain ⟨⟨x5, s5⟩, z5⟩ := Q2.out ((k + 1) * 3 + 2) (by omega)
                      go_upto_region 10 with fail
                      obtain ⟨p1, p2, p3⟩ := set_one (k := k + 1) (by simp) Q2.out Q1.out Q3 hg1 (11, (k : Int) + 3, 0)
                      dsimp only at p1 p2 p3
                      have hsz2 : gv < (((W1.setCell ⟨gv, (k + 1) * 3, none⟩ (.int .i64 11)).setCell ⟨gv, (k + 1) * 3 + 1, none⟩ (.int .i64 ((k : Int) + 3))).setCell ⟨gv, (k + 1) * 3 + 2, none⟩ (.int .i64 0)).heap.size := by simpa using hsz
                      have P1 : Hid (Row (((W1.setCell ⟨gv, (k + 1) * 3, none⟩ (.int .i64 11)).setCell ⟨gv, (k + 1) * 3 + 1, none⟩ (.int .i64 ((k : Int) + 3))).setCell ⟨gv, (k + 1) * 3 + 2, none⟩ (.int .i64 0)) gv 0 ((l.set k (1, out, 0)).set (k + 1) (11, (k : Int) + 3, 0))) := p1
                      have P2 : Hid (Room (((W1.setCell ⟨gv, (k + 1) * 3, none⟩ (.int .i64 11)).setCell ⟨gv, (k + 1) * 3 + 1, none⟩ (.int .i64 ((k : Int) + 3))).setCell ⟨gv, (k + 1) * 3 + 2, none⟩ (.int .i64 0)) gv (l.length * 3)) := p2
                      clear p1 p2 Q1 Q2 Q3 s3 s4 s5 z3 z4 z5 hsz
                      generalize (((W1.setCell ⟨gv, (k + 1) * 3, none⟩ (.int .i64 11)).setCell ⟨gv, (k + 1) * 3 + 1, none⟩ (.int .i64 ((k : Int) + 3))).setCell ⟨gv, (k + 1) * 3 + 2, none⟩ (.int .i64 0)) = W2 at *
                      obtain ⟨⟨x6, s6⟩, z6⟩ := P2.out ((k + 2) * 3) (by omega)
                      obtain ⟨⟨x7, s7⟩, z7⟩ := P2.out ((k + 2) * 3 + 1) (by omega)
                      obtain ⟨⟨x8, s8⟩, z8⟩ := P2.out ((k + 2) * 3 + 2) (by omega)
                      obtain ⟨o1, o2, o3⟩ := set_one (k := k + 2) (by simp) P2.out P1.out p3 hg1 (11, (k : Int) + 3, 0)
                      dsimp only at o1 o2 o3
                      have HG : Hid (Got w.heap.size (((W2.setCell ⟨gv, (k + 2) * 3, none⟩ (.int .i64 11)).setCell ⟨gv, (k + 2) * 3 + 1, none⟩ (.int .i64 ((k : Int) + 3))).setCell ⟨gv, (k + 2) * 3 + 2, none⟩ (.int .i64 0)) (.slice (some ⟨gv, 0, none⟩) l.length cv) (foldsF l).1 ∧ (foldsF l).2 = true) := by
                        rw [HF.out]
                        refine ⟨⟨gv, cv, by simp [foldAt], hg1, by simpa using hsz2, ?_, ?_⟩, rfl⟩
                        · show Row _ _ _ (foldAt l k); unfold foldAt; rw [HOU.out]; exact o1
                        · show Room _ _ ((foldAt l k).length * 3); rw [foldAt_len]; exact o2
                      clear o1 o2 P1 P2 p3 hsz2 HF HOU
                      go_wp2
                      go_ret2
                      exact ⟨_, by rw [HG.out.2]; rfl, HG.out.1, o3⟩
                  · have HN' : Hid (∀ i, i < k + 1 → foldB l i = false) := HNO.out (foldB_ld (.inr hL2))
                    clear HNO hno HY HLD1 HLD2 hL2 hL1 HSUM
                    go_wp2
                    go_roundw
                    case rel => exact ⟨k + 1, by omega, by go_num, HN'.out, by simp⟩
                    case measure => simp [intOf]; omega
                · have HN' : Hid (∀ i, i < k + 1 → foldB l i = false) := HNO.out (foldB_ld (.inl hL1))
                  clear HNO hno HY HLD1 HLD2 hL1 HSUM
                  go_wp2
                  go_roundw
                  case rel => exact ⟨k + 1, by omega, by go_num, HN'.out, by simp⟩
                  case measure => simp [intOf]; omega
        · have HN' : Hid (∀ i, i < k + 1 → foldB l i = false) := HNO.out (foldB_op (.inr h6))
          have h6' : ((insF l (k + 1)).1 == 1) = false := by simp [h6]
          have h6'' : ((insF l (k + 1)).1 != 1) = true := by simp [h6]
          clear HNO hno h5
          generalize (insF l (k + 1)).1 = op1 at *
          go_wp2
          go_roundw
          case rel => exact ⟨k + 1, by omega, by go_num, HN'.out, by simp⟩
          case measure => simp [intOf]; omega
      · have HN' : Hid (∀ i, i < k + 1 → foldB l i = false) := HNO.out (foldB_op (.inl h5))
        have h5' : ((insF l k).1 == 1) = false := by simp [h5]
        have h5'' : ((insF l k).1 != 1) = true := by simp [h5]
        clear HNO hno
        generalize (insF l k).1 = op0 at *
        go_wp2
        go_roundw
        case rel => exact ⟨k + 1, by omega, by go_num, HN'.out, by simp⟩
        case measure => simp [intOf]; omega
    · have HF : Hid (foldsF l = (l, false)) := folds_none hno.out (by omega)
      have h3i : ¬ (k : Int) + 3 < (l.length : Int) := by omega
      have HG : Hid (Got w.heap.size wr (.slice (some ⟨gv, 0, none⟩) l.length cv) (foldsF l).1) := by
        show Got _ _ _ _
        rw [HF.out]
        exact HV2.out.got
      have HB : Hid ((foldsF l).2 = false) := by show _ = _; rw [HF.out]
      clear HV2 HF hno
      go_wp2
      go_ret2
      exact ⟨_, by rw [HB.out]; rfl, HG.out, hw2⟩
theorem folA_len (l : List Tx.Ins) : (folA l).length ≤ 41 := by
  unfold folA
  split
  · rename_i h
    have := (Lay.ok_len h).2
    rw [folds_len]; omega
  · simp
end Pg
end Go.Proofs.Ythabenjodhjgiaa

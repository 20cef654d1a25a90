/- The leaders, as a list of its own (the specification's). -/
import Derived.Test.YthabenjodhjgiaaNx4
import Derived.Test.YthabenjodhjgiaaGn0
namespace Go.Proofs.Ythabenjodhjgiaa
namespace Pg
open Go.ChangeShapes Go.WideShapes Go.ChangeAt Go.RowKit St

theorem LstB.form {B : Nat} {w : World} {v : Value} {l : List Int} (h : LstB B w v l) : ∃ g c, v = .slice (some ⟨g, 0, none⟩) l.length c := by
  obtain ⟨g, c, hv, _⟩ := h
  exact ⟨g, c, hv⟩
theorem LstB.on {B : Nat} {u w : World} {v : Value} {l : List Int} (h : LstB B u v l) (hb : Below u.heap.size u w) : LstB B w v l := by
  obtain ⟨g, c, h1, h2, h3, h4, h5⟩ := h
  exact ⟨g, c, h1, h2, h3, Nat.lt_of_lt_of_le h4 hb.size, h5.on hb⟩
theorem LstB.lst {B : Nat} {w : World} {v : Value} {l : List Int} (h : LstB B w v l) : Lst w v l := by
  obtain ⟨g, c, h1, h2, h3, h4, h5⟩ := h
  exact ⟨g, c, h1, h2, h4, h5⟩
set_option maxRecDepth 100000 in
set_option maxHeartbeats 2000000 in
theorem l9LeadersB (g yc : Nat) (code : List Tx.Ins) (hok : Lay.codeOk code = true) (w : World) (hrow : Row w g 0 code) :
    Calls Try.prog 45 #[.slice (some ⟨g, 0, none⟩) code.length yc] w fun e w' => ∃ v, e = .returned v ∧ LstB w.heap.size w' v (risL (ldB code code.length) 40) ∧ Below w.heap.size w w' := by
  have hl40 := (Lay.ok_len hok).2
  have lg : g < w.heap.size := cell_lt (hrow 0 _ (ins_is (Lay.ok_len hok).1)).1
  have HR : Hid (Row w g 0 code) := hrow
  have HE : Hid (ldL code code.length = risL (ldB code code.length) 40) := ld_ris hok
  have HG0 : Hid (LstB w.heap.size (w.alloc (.cells #[.int .i64 0] 2)) (.slice (some ⟨w.heap.size, 0, none⟩) 1 1) (ldL code 0)) := lstB_of (grow_lit1 w 0) (Nat.le_refl _)
  have hb0 : Below w.heap.size w (w.alloc (.cells #[.int .i64 0] 2)) := (Below.refl _ _).alloc (Nat.le_refl _) _
  clear hrow
  go_enter Try.func45, Try.ntmps45
  go_wp2_with fail
  go_loopw [3, 4] (fun v i wr => ∃ k : Nat, k ≤ code.length ∧ i = .int .i64 k ∧ Hid (LstB w.heap.size wr v (ldL code k)) ∧ Below w.heap.size w wr) (fun _ i _ => code.length - (intOf i).toNat)
  case atStart => exact ⟨0, Nat.zero_le _, rfl, HG0.out, hb0⟩
  case round =>
    clear HG0 hb0
    obtain ⟨k, hk, rfl, hls, hb⟩ := hrel
    by_cases hlt : k < code.length
    · obtain ⟨d0, d1, d2⟩ := (HR.out.below hb lg) k _ (ins_is hlt)
      have lgr : g < wr.heap.size := Nat.lt_of_lt_of_le lg hb.size
      have HLS : Hid (ldL code (k + 1) = ldS code k (ldL code k)) := rfl
      have HSS : Hid (ldS code k (ldL code k) = (if endB (insF code k).1 && decide (k + 1 < code.length) then putL (if Lay.jumpB (insF code k).1 then putL (ldL code k) (insF code k).2.1 else ldL code k) ((k : Int) + 1) else (if Lay.jumpB (insF code k).1 then putL (ldL code k) (insF code k).2.1 else ldL code k))) := rfl
      have hlen := ldL_len code k
      obtain ⟨gv, cv, rfl⟩ := hls.out.form
      generalize insF code k = ins at *
      obtain ⟨op, a, b⟩ := ins
      dsimp only at d0 d1 d2 HSS
      simp only [Nat.zero_add] at d0 d1 d2
      have hki : (k : Int) < (code.length : Int) := by omega
      generalize ldL code k = ls at *
      go_wp2_with fail
      refine (St.l3Jump op wr).mono ?_
      rintro e _ ⟨rfl, rfl⟩
      cases hj : Lay.jumpB op
      · go_wp2_with fail
        refine (St.l3Jump op wr).mono ?_
        rw [hj]
        rintro e _ ⟨rfl, rfl⟩
        by_cases h20 : op = 20
        · subst h20
          by_cases hl1 : k + 1 < code.length
          · have hli : (k : Int) + 1 < (code.length : Int) := by omega
            have HV : Hid (ldL code (k + 1) = putL ls ((k : Int) + 1)) := by show _ = _; rw [HLS.out, HSS.out]; simp [endB, hl1, hj]
            clear HLS HSS hj
            go_wp2_with fail
            refine (l1PutB w.heap.size ls (.slice (some ⟨gv, 0, none⟩) ls.length cv) ((k : Int) + 1) (by omega) wr hb.size hls.out).mono ?_
            rintro e w3 ⟨v', rfl, hl3, hb3⟩
            have hw3 : Below w.heap.size w w3 := below_over hb hb3
            have HL3 : Hid (LstB w.heap.size w3 v' (ldL code (k + 1))) := by show LstB _ _ _ _; rw [HV.out]; exact hl3
            clear hb3 hl3 HV d0 d1 d2 hls hb lgr
            go_wp2
            go_roundw
            case rel => exact ⟨k + 1, by omega, by go_num, HL3.out, hw3⟩
            case measure => simp [intOf]; omega
          · have hli : ¬ (k : Int) + 1 < (code.length : Int) := by omega
            have HV : Hid (LstB w.heap.size wr (.slice (some ⟨gv, 0, none⟩) ls.length cv) (ldL code (k + 1))) := by show LstB _ _ _ _; rw [HLS.out, HSS.out]; simpa [hl1, hj] using hls.out
            clear HLS HSS hj
            go_wp2
            go_roundw
            case rel => exact ⟨k + 1, by omega, by go_num, HV.out, hb⟩
            case measure => simp [intOf]; omega
        · have h20b : (op == 20) = false := by simp [h20]
          have HV : Hid (LstB w.heap.size wr (.slice (some ⟨gv, 0, none⟩) ls.length cv) (ldL code (k + 1))) := by show LstB _ _ _ _; rw [HLS.out, HSS.out]; simpa [endB, h20, hj] using hls.out
          clear HLS HSS hj h20
          go_wp2
          go_roundw
          case rel => exact ⟨k + 1, by omega, by go_num, HV.out, hb⟩
          case measure => simp [intOf]; omega
      · go_wp2_with fail
        refine (l1PutB w.heap.size ls (.slice (some ⟨gv, 0, none⟩) ls.length cv) a (by omega) wr hb.size hls.out).mono ?_
        rintro e w3 ⟨v', rfl, hl3, hb3⟩
        have hw3 : Below w.heap.size w w3 := below_over hb hb3
        have HL3 : Hid (LstB w.heap.size w3 v' (putL ls a)) := hl3
        have c0 := (hb3.cell (p := ⟨g, k * 3, none⟩) lgr).trans d0
        have hpl := putL_len ls a
        clear hb3 hl3 d0 d1 d2 hls hb
        go_wp2_with fail
        refine (St.l3Jump op w3).mono ?_
        rw [hj]
        rintro e _ ⟨rfl, rfl⟩
        by_cases hl1 : k + 1 < code.length
        · have hli : (k : Int) + 1 < (code.length : Int) := by omega
          have HV : Hid (ldL code (k + 1) = putL (putL ls a) ((k : Int) + 1)) := by show _ = _; rw [HLS.out, HSS.out]; simp [endB, hl1, hj]
          clear HLS HSS hj
          go_wp2_with fail
          refine (l1PutB w.heap.size (putL ls a) v' ((k : Int) + 1) (by omega) w3 hw3.size HL3.out).mono ?_
          rintro e w4 ⟨v4, rfl, hl4, hb4⟩
          have hw4 : Below w.heap.size w w4 := below_over hw3 hb4
          have HL4 : Hid (LstB w.heap.size w4 v4 (ldL code (k + 1))) := by show LstB _ _ _ _; rw [HV.out]; exact hl4
          clear hb4 hl4 HV HL3 hw3 lgr c0
          go_wp2
          go_roundw
          case rel => exact ⟨k + 1, by omega, by go_num, HL4.out, hw4⟩
          case measure => simp [intOf]; omega
        · have hli : ¬ (k : Int) + 1 < (code.length : Int) := by omega
          have HV : Hid (LstB w.heap.size w3 v' (ldL code (k + 1))) := by show LstB _ _ _ _; rw [HLS.out, HSS.out]; simpa [hl1, hj] using HL3.out
          clear HLS HSS hj HL3 c0
          go_wp2
          go_roundw
          case rel => exact ⟨k + 1, by omega, by go_num, HV.out, hw3⟩
          case measure => simp [intOf]; omega
    · obtain rfl : k = code.length := by omega
      go_wp2
      go_ret
      exact ⟨_, rfl, by rw [← HE.out]; exact hls.out, hb⟩
end Pg
end Go.Proofs.Ythabenjodhjgiaa

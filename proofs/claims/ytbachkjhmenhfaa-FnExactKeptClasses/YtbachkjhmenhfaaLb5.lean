/- Contracts of the program's KeptClasses and KeptNames. -/
import Derived.Test.YtbachkjhmenhfaaLb4
namespace Go.Proofs.Ytbachkjhmenhfaa
namespace Pg
open Go.ChangeShapes Go.WideShapes Go.ChangeAt Go.RowKit St

theorem keptN_len (l rules : List ByteArray) : ∀ k, (keptN l rules k).length ≤ k
  | 0 => Nat.le_refl _
  | k + 1 => by
    have := keptN_len l rules k
    unfold keptN
    rw [List.length_append]
    split
    · simp; omega
    · simp; omega
def keptA (l1 l2 l rules : List ByteArray) : List Int := if (labsB l1 l2 && rulesB rules) = true then keptL l rules else []
theorem keptN_yes {l rules : List ByteArray} {k : Nat} (h : hitK l rules k = true) : keptN l rules (k + 1) = keptN l rules k ++ [(k : Int)] := by
  show keptN l rules k ++ (if hitK l rules k = true then [(k : Int)] else []) = _
  rw [if_pos h]
theorem keptN_no {l rules : List ByteArray} {k : Nat} (h : hitK l rules k = false) : keptN l rules (k + 1) = keptN l rules k := by
  show keptN l rules k ++ (if hitK l rules k = true then [(k : Int)] else []) = _
  rw [if_neg (by rw [h]; decide), List.append_nil]
theorem labs_len {l1 l2 : List ByteArray} (h : labsB l1 l2 = true) : l1.length ≤ 20 ∧ l2.length ≤ 20 := by
  unfold labsB at h
  simp only [Bool.and_eq_true, decide_eq_true_eq] at h
  omega

set_option maxRecDepth 100000 in
set_option maxHeartbeats 1000000 in
theorem keptOf_at (a1 a2 a3 a4 : Option Addr) (c1 c2 c3 c4 : Nat) (l1 l2 l rules : List ByteArray) (h1 : l1.length ≤ 1048576) (h2 : l2.length ≤ 1048576) (k1 : l1.length ≤ c1) (k2 : l2.length ≤ c2) (h4 : rules.length ≤ 1048576) (hll : labsB l1 l2 = true → l.length ≤ 20) (w : World)
    (s1 : ST 0 w (.slice a1 l1.length c1) l1) (s2 : ST 0 w (.slice a2 l2.length c2) l2) (s3 : ST 0 w (.slice a3 l.length c3) l) (s4 : ST 0 w (.slice a4 rules.length c4) rules) :
    Calls Try.prog 45 #[.agg #[.slice a1 l1.length c1, .slice a2 l2.length c2], .slice a3 l.length c3, .slice a4 rules.length c4] w fun e w' => ∃ v, e = .returned v ∧ Grow w.heap.size w' v (keptA l1 l2 l rules) ∧ Below w.heap.size w w' := by
  obtain ⟨V, hV⟩ : ∃ V, V = w.alloc (.cells #[.slice a1 l1.length c1, .slice a2 l2.length c2] 29) := ⟨_, rfl⟩
  have hwV : Below w.heap.size w V := by rw [hV]; exact (Below.refl _ _).alloc (Nat.le_refl _) _
  have hsV : V.heap.size = w.heap.size + 1 := by rw [hV]; simp
  obtain ⟨W, hW⟩ : ∃ W, W = V.alloc (.cells #[] 2) := ⟨_, rfl⟩
  have hwW : Below w.heap.size w W := by rw [hW]; exact hwV.alloc hwV.size _
  have L0 : Hid (Cells W w.heap.size [.slice a1 l1.length c1, .slice a2 l2.length c2]) := by show Cells _ _ _; rw [hW, hV]; exact (Cells.new w _ rfl _ _).alloc _
  have G0 : Hid (Grow w.heap.size W (.slice (some ⟨w.heap.size + 1, 0, none⟩) 0 0) []) := by
    have h := grow_empty V hwV.size
    rw [hsV, ← hW] at h
    exact h
  have HWW : Hid (W = (w.alloc (.cells #[.slice a1 l1.length c1, .slice a2 l2.length c2] 29)).alloc (.cells #[] 2)) := by show _ = _; rw [hW, hV]
  have S1 : Hid (ST 0 W (.slice a1 l1.length c1) l1) := s1.on (Keep.of hwW)
  have S2 : Hid (ST 0 W (.slice a2 l2.length c2) l2) := s2.on (Keep.of hwW)
  have S3 : Hid (ST 0 w (.slice a3 l.length c3) l) := s3
  have S0 : Hid (ST 0 w (.slice a4 rules.length c4) rules) := s4
  have S4 : Hid (ST 0 W (.slice a4 rules.length c4) rules) := s4.on (Keep.of hwW)
  obtain ⟨i0, _⟩ := L0.out.g0
  obtain ⟨i1, _⟩ := L0.out.g1
  clear hV hW hwV hsV s1 s2 s3 s4 L0
  have HLL : Hid (labsB l1 l2 = true → l.length ≤ 20) := hll
  clear hll
  go_enter Try.func45, Try.ntmps45
  go_wp2_with fail
  rw [← HWW.out]
  clear HWW
  refine (implLabels a1 a2 c1 c2 l1 l2 h1 h2 k1 k2 _ S1.out S2.out).mono ?_
  rintro e w1 ⟨rfl, hb1⟩
  have hw1 : Below w.heap.size w w1 := below_over hwW hb1
  have G1 : Hid (Grow w.heap.size w1 (.slice (some ⟨w.heap.size + 1, 0, none⟩) 0 0) []) := G0.out.on hb1
  have S6 : Hid (ST 0 w1 (.slice a4 rules.length c4) rules) := S4.out.on (Keep.of hb1)
  clear hb1 G0 S1 S2 S4 hwW i0 i1
  cases hL : labsB l1 l2
  · have HK : Hid (keptA l1 l2 l rules = []) := by show _ = _; unfold keptA; rw [hL]; rfl
    go_wp2
    go_ret
    exact ⟨_, rfl, by rw [HK.out]; exact G1.out, hw1⟩
  · have hl20 := HLL.out hL
    have HL : Hid (labsB l1 l2 = true) := hL
    clear hL HLL
    go_wp2_with fail
    refine (areRules_at a4 c4 rules h4 _ S6.out).mono ?_
    rintro e w2 ⟨rfl, hb2⟩
    have hw2 : Below w.heap.size w w2 := below_over hw1 hb2
    have G2 : Hid (Grow w.heap.size w2 (.slice (some ⟨w.heap.size + 1, 0, none⟩) 0 0) []) := G1.out.on hb2
    have hz2 := hw2.size
    clear hb2 G1 S6 hw1
    cases hR : rulesB rules
    · have HK : Hid (keptA l1 l2 l rules = []) := by show _ = _; unfold keptA; rw [HL.out, hR]; rfl
      go_wp2
      go_ret
      exact ⟨_, rfl, by rw [HK.out]; exact G2.out, hw2⟩
    · have HK : Hid (keptA l1 l2 l rules = keptL l rules) := by show _ = _; unfold keptA; rw [HL.out, hR]; rfl
      clear hR HL
      go_wp2
      go_loopw [7, 22] (fun v i wr => ∃ k : Nat, k ≤ l.length ∧ Hid (∃ g c, v = .slice (some ⟨g, 0, none⟩) (keptN l rules k).length c ∧ Grow w.heap.size wr v (keptN l rules k)) ∧ i = .int .i64 (k : Int) ∧ Below w.heap.size w wr) (fun _ i _ => l.length - (intOf i).toNat)
      case atStart => exact ⟨0, Nat.zero_le _, ⟨_, _, rfl, G2.out⟩, rfl, hw2⟩
      case round =>
        clear G2
        obtain ⟨k, hk, hgr, rfl, hb⟩ := hrel
        obtain ⟨g, c, rfl, hg⟩ := hgr.out
        have HG : Hid (Grow w.heap.size wr (.slice (some ⟨g, 0, none⟩) (keptN l rules k).length c) (keptN l rules k)) := hg
        clear hg hgr
        by_cases hlt : k < l.length
        · have hki : (k : Int) < (l.length : Int) := by omega
          obtain ⟨b, o, rfl, _, c0⟩ := (S3.out.on (Keep.of hb)).get hlt
          unfold StrAt at c0
          rw [Nat.mul_one] at c0
          have HKL : Hid ((keptN l rules k).length ≤ 20) := by have := keptN_len l rules k; show _ ≤ _; omega
          obtain ⟨t, ht⟩ : ∃ t, t = l[k] := ⟨_, rfl⟩
          have HHK : Hid (hitK l rules k = (decide (k = 0) || askB rules t)) := by
            show _ = _; unfold hitK; rw [List.getElem?_eq_getElem hlt, ht]
          rw [← ht] at c0
          clear ht
          by_cases h0 : k = 0
          · have h0i : ((k : Int) == 0) = true := by rw [beq_iff_eq]; omega
            have HY : Hid (keptN l rules (k + 1) = keptN l rules k ++ [(k : Int)]) := keptN_yes (by rw [HHK.out, decide_eq_true h0]; rfl)
            clear h0 HHK
            have hba := (hb).size
            have HG1 : Hid (Grow w.heap.size (wr.alloc (.cells #[.int .i64 (k : Int)] 2)) (.slice (some ⟨g, 0, none⟩) (keptN l rules k).length c) (keptN l rules k)) := HG.out.on ((Below.refl _ _).alloc (Nat.le_refl _) _)
            have HSI : Hid (SI true wr.heap.size (wr.alloc (.cells #[.int .i64 (k : Int)] 2)) (.slice (some ⟨wr.heap.size, 0, none⟩) 1 1) [(k : Int)]) := (grow_lit1 wr _).gint.si
            clear HG
            generalize keptN l rules k = L at *
            go_wp2_with (at_builtin; refine wpList_grow rfl _ _ rfl w.heap.size _ _ rfl HG1.out (by simp; omega) _ _ _ [(k : Int)] rfl HSI.out (by have := HKL.out; simp at this ⊢; omega) ?_)
            intro v' w' hg' hk'
            obtain ⟨g', c', rfl⟩ := hg'.form
            have hbn : Below w.heap.size w w' := (((hb).alloc hba _).trans hk'.below)
            rw [← HY.out] at hg' ⊢
            have HG2 : Hid (Grow w.heap.size w' (.slice (some ⟨g', 0, none⟩) (keptN l rules (k + 1)).length c') (keptN l rules (k + 1))) := hg'
            clear hg' hk' HG1 HSI HY
            go_wp2
            go_roundw
            case rel => exact ⟨k + 1, by omega, ⟨_, _, rfl, HG2.out⟩, by go_num, hbn⟩
            case measure => simp [intOf]; omega
          · have h0i : ((k : Int) == 0) = false := by rw [beq_eq_false_iff_ne]; omega
            go_wp2_with fail
            refine (isAsked_at t a4 c4 rules h4 _ (S0.out.on (Keep.of hb))).mono ?_
            rintro e w3 ⟨rfl, hb3⟩
            have hb4 := below_over hb hb3
            have HG3 : Hid (Grow w.heap.size w3 (.slice (some ⟨g, 0, none⟩) (keptN l rules k).length c) (keptN l rules k)) := HG.out.on hb3
            clear hb3 HG c0
            cases hq : askB rules t
            · have HY : Hid (keptN l rules (k + 1) = keptN l rules k) := keptN_no (by rw [HHK.out, decide_eq_false h0, hq]; rfl)
              clear HHK hq h0
              go_wp2
              go_roundw
              case rel => exact ⟨k + 1, by omega, by show ∃ _ _, _; rw [HY.out]; exact ⟨_, _, rfl, HG3.out⟩, by go_num, hb4⟩
              case measure => simp [intOf]; omega
            · have HY : Hid (keptN l rules (k + 1) = keptN l rules k ++ [(k : Int)]) := keptN_yes (by rw [HHK.out, decide_eq_false h0, hq]; rfl)
              clear HHK hq h0
              have hba := (hb4).size
              have HG1 : Hid (Grow w.heap.size (w3.alloc (.cells #[.int .i64 (k : Int)] 2)) (.slice (some ⟨g, 0, none⟩) (keptN l rules k).length c) (keptN l rules k)) := HG3.out.on ((Below.refl _ _).alloc (Nat.le_refl _) _)
              have HSI : Hid (SI true w3.heap.size (w3.alloc (.cells #[.int .i64 (k : Int)] 2)) (.slice (some ⟨w3.heap.size, 0, none⟩) 1 1) [(k : Int)]) := (grow_lit1 w3 _).gint.si
              clear HG3
              generalize keptN l rules k = L at *
              go_wp2_with (at_builtin; refine wpList_grow rfl _ _ rfl w.heap.size _ _ rfl HG1.out (by simp; omega) _ _ _ [(k : Int)] rfl HSI.out (by have := HKL.out; simp at this ⊢; omega) ?_)
              intro v' w' hg' hk'
              obtain ⟨g', c', rfl⟩ := hg'.form
              have hbn : Below w.heap.size w w' := (((hb4).alloc hba _).trans hk'.below)
              rw [← HY.out] at hg' ⊢
              have HG2 : Hid (Grow w.heap.size w' (.slice (some ⟨g', 0, none⟩) (keptN l rules (k + 1)).length c') (keptN l rules (k + 1))) := hg'
              clear hg' hk' HG1 HSI HY
              go_wp2
              go_roundw
              case rel => exact ⟨k + 1, by omega, ⟨_, _, rfl, HG2.out⟩, by go_num, hbn⟩
              case measure => simp [intOf]; omega
        · obtain rfl : k = l.length := by omega
          go_wp2
          go_ret
          exact ⟨_, rfl, by rw [HK.out]; exact HG.out, hb⟩
theorem implKeptClasses (a1 a2 a4 : Option Addr) (c1 c2 c4 : Nat) (l1 l2 rules : List ByteArray) (h1 : l1.length ≤ 1048576) (h2 : l2.length ≤ 1048576) (k1 : l1.length ≤ c1) (k2 : l2.length ≤ c2) (h4 : rules.length ≤ 1048576) (w : World)
    (s1 : ST 0 w (.slice a1 l1.length c1) l1) (s2 : ST 0 w (.slice a2 l2.length c2) l2) (s4 : ST 0 w (.slice a4 rules.length c4) rules) :
    Calls Try.prog 15 #[.agg #[.slice a1 l1.length c1, .slice a2 l2.length c2], .slice a4 rules.length c4] w fun e w' => ∃ v, e = .returned v ∧ Grow w.heap.size w' v (keptA l1 l2 l1 rules) ∧ Below w.heap.size w w' := by
  have hb0 : Below w.heap.size w (w.alloc (.cells #[.slice a1 l1.length c1, .slice a2 l2.length c2] 29)) := (Below.refl _ _).alloc (Nat.le_refl _) _
  have S1 : Hid (ST 0 (w.alloc (.cells #[.slice a1 l1.length c1, .slice a2 l2.length c2] 29)) (.slice a1 l1.length c1) l1) := s1.on (Keep.of hb0)
  have S2 : Hid (ST 0 (w.alloc (.cells #[.slice a1 l1.length c1, .slice a2 l2.length c2] 29)) (.slice a2 l2.length c2) l2) := s2.on (Keep.of hb0)
  have S4 : Hid (ST 0 (w.alloc (.cells #[.slice a1 l1.length c1, .slice a2 l2.length c2] 29)) (.slice a4 rules.length c4) rules) := s4.on (Keep.of hb0)
  clear s1 s2 s4
  go_enter Try.func15, Try.ntmps15
  go_wp2_with fail
  refine (keptOf_at a1 a2 a1 a4 c1 c2 c1 c4 l1 l2 l1 rules h1 h2 k1 k2 h4 (fun h => (labs_len h).1) _ S1.out S2.out S1.out S4.out).mono ?_
  rintro e w1 ⟨v, rfl, hg, hb1⟩
  have HG : Hid (Grow w.heap.size w1 v (keptA l1 l2 l1 rules)) := hg.base' (by simp)
  clear hg S1 S2 S4
  go_wp2
  go_ret
  exact ⟨_, rfl, HG.out, below_over hb0 hb1⟩
theorem implKeptNames (a1 a2 a4 : Option Addr) (c1 c2 c4 : Nat) (l1 l2 rules : List ByteArray) (h1 : l1.length ≤ 1048576) (h2 : l2.length ≤ 1048576) (k1 : l1.length ≤ c1) (k2 : l2.length ≤ c2) (h4 : rules.length ≤ 1048576) (w : World)
    (s1 : ST 0 w (.slice a1 l1.length c1) l1) (s2 : ST 0 w (.slice a2 l2.length c2) l2) (s4 : ST 0 w (.slice a4 rules.length c4) rules) :
    Calls Try.prog 16 #[.agg #[.slice a1 l1.length c1, .slice a2 l2.length c2], .slice a4 rules.length c4] w fun e w' => ∃ v, e = .returned v ∧ Grow w.heap.size w' v (keptA l1 l2 l2 rules) ∧ Below w.heap.size w w' := by
  have hb0 : Below w.heap.size w (w.alloc (.cells #[.slice a1 l1.length c1, .slice a2 l2.length c2] 29)) := (Below.refl _ _).alloc (Nat.le_refl _) _
  have S1 : Hid (ST 0 (w.alloc (.cells #[.slice a1 l1.length c1, .slice a2 l2.length c2] 29)) (.slice a1 l1.length c1) l1) := s1.on (Keep.of hb0)
  have S2 : Hid (ST 0 (w.alloc (.cells #[.slice a1 l1.length c1, .slice a2 l2.length c2] 29)) (.slice a2 l2.length c2) l2) := s2.on (Keep.of hb0)
  have S4 : Hid (ST 0 (w.alloc (.cells #[.slice a1 l1.length c1, .slice a2 l2.length c2] 29)) (.slice a4 rules.length c4) rules) := s4.on (Keep.of hb0)
  clear s1 s2 s4
  go_enter Try.func16, Try.ntmps16
  go_wp2_with fail
  refine (keptOf_at a1 a2 a2 a4 c1 c2 c2 c4 l1 l2 l2 rules h1 h2 k1 k2 h4 (fun h => (labs_len h).2) _ S1.out S2.out S2.out S4.out).mono ?_
  rintro e w1 ⟨v, rfl, hg, hb1⟩
  have HG : Hid (Grow w.heap.size w1 v (keptA l1 l2 l2 rules)) := hg.base' (by simp)
  clear hg S1 S2 S4
  go_wp2
  go_ret
  exact ⟨_, rfl, HG.out, below_over hb0 hb1⟩
end Pg
end Go.Proofs.Ytbachkjhmenhfaa

/- Contracts: both sides' Straight. -/
import Derived.Test.YtajjoanfojaeiaaNx4
namespace Go.Proofs.Ytajjoanfojaeiaa
namespace Pg
open Go.ChangeShapes Go.WideShapes Go.ChangeAt Go.RowKit St

/-- None from a and 1 up to b is a leader. -/
def strB (code : List Tx.Ins) (a b : Nat) : Bool := (List.range (b - a)).all fun i => !(ldB code code.length (a + 1 + i))
def strA (l : List Tx.Ins) (a b : Int) : Bool := atB l a && (atB l b && (decide (a ≤ b) && strB l a.toNat b.toNat))
theorem ldB_mono (code : List Tx.Ins) {j : Nat} : ∀ {k m : Nat}, k ≤ m → ldB code k j = true → ldB code m j = true := by
  intro k m h
  induction h with
  | refl => exact id
  | step h ih => intro hk; simp only [ldB, ih hk, Bool.true_or]
/-- Behind a jump or OpGive there is a leader. -/
theorem end_leads {code : List Tx.Ins} {i : Nat} (hi : i + 1 < code.length) (he : endB (insF code i).1 = true) : ldB code code.length (i + 1) = true := by
  refine ldB_mono code (show i + 1 ≤ code.length by omega) ?_
  simp only [ldB, ld1, he, Bool.true_and, Bool.or_eq_true, Bool.and_eq_true, decide_eq_true_eq]
  right; right; omega
theorem ld_has {code : List Tx.Ins} (j : Nat) (hj : j < 40) : decide (((j : Nat) : Int) ∈ risL (ldB code code.length) 40) = ldB code code.length j := by
  cases h : ldB code code.length j
  · simp only [decide_eq_false_iff_not, risL_mem]
    rintro ⟨i, _, h1, h2⟩
    rw [show j = i by omega] at h
    rw [h] at h1; simp at h1
  · simp only [decide_eq_true_eq, risL_mem]
    exact ⟨j, hj, h, rfl⟩

/-- The first place of a flag that is set, among n cells from place o on. -/
def firstI (P : Nat → Bool) (o n : Nat) : Int := match (List.range n).find? (fun i => P (o + i)) with | none => -1 | some i => (i : Int)
set_option maxRecDepth 100000 in
set_option maxHeartbeats 1000000 in
theorem indexB_at (b o n cap N : Nat) (hn : n ≤ 1000) (P : Nat → Bool) (hN : o + n ≤ N) (w : World) (h : Cells w b (chi N P)) :
    Calls Try.prog 53 #[.slice (some ⟨b, o, none⟩) n cap, .bool true] w fun e w' => (∃ i : Int, e = .returned (.int .i64 i) ∧ (decide (0 ≤ i) = (List.range n).any fun i => P (o + i))) ∧ w' = w := by
  have HC : Hid (Cells w b (chi N P)) := h
  clear h
  go_enter Try.func53, Try.ntmps53
  go_wp2
  go_loopw [8] (fun i wr => ∃ k : Nat, k ≤ n ∧ i = .int .i64 (k : Int) ∧ Hid (∀ j, j < k → P (o + j) = false) ∧ wr = w) (fun i _ => n - (intOf i).toNat)
  case atStart => exact ⟨0, Nat.zero_le _, rfl, fun j hj => by omega, rfl⟩
  case round =>
    obtain ⟨k, hk, rfl, hno, rfl⟩ := hrel
    by_cases hlt : k < n
    · obtain ⟨c0, _⟩ := HC.out (o + k) _ (chi_at P (by omega))
      have hki : (k : Int) < (n : Int) := by omega
      cases hp : P (o + k)
      · rw [hp] at c0
        have HN : Hid (∀ j, j < k + 1 → P (o + j) = false) := fun j hj => by
          rcases Nat.lt_or_ge j k with h | h
          · exact hno.out j h
          · rw [show j = k by omega]; exact hp
        clear hp hno
        go_wp2
        go_roundw
        case rel => exact ⟨k + 1, by omega, by go_num, HN.out, by simp⟩
        case measure => simp [intOf]; omega
      · rw [hp] at c0
        have HY : Hid ((List.range n).any (fun i => P (o + i)) = true) := List.any_eq_true.2 ⟨k, List.mem_range.2 hlt, hp⟩
        clear hp hno
        go_wp2
        go_ret
        exact ⟨⟨_, rfl, by rw [HY.out]; simp⟩, rfl⟩
    · have HY : Hid ((List.range n).any (fun i => P (o + i)) = false) := by
        show _ = _
        rw [List.any_eq_false]
        intro i hi
        rw [hno.out i (by have := List.mem_range.1 hi; omega)]; simp
      clear hno
      go_wp2
      go_ret
      exact ⟨⟨_, rfl, by rw [HY.out]; rfl⟩, rfl⟩
set_option maxRecDepth 100000 in
set_option maxHeartbeats 1000000 in
theorem containsB_at (b o n cap N : Nat) (hn : n ≤ 1000) (P : Nat → Bool) (hN : o + n ≤ N) (w : World) (h : Cells w b (chi N P)) :
    Calls Try.prog 43 #[.slice (some ⟨b, o, none⟩) n cap, .bool true] w fun e w' => e = .returned (.bool ((List.range n).any fun i => P (o + i))) ∧ w' = w := by
  have HC : Hid (Cells w b (chi N P)) := h
  clear h
  go_enter Try.func43, Try.ntmps43
  go_wp2_with fail
  refine (indexB_at b o n cap N hn P hN w HC.out).mono ?_
  rintro e _ ⟨⟨i, rfl, hi⟩, rfl⟩
  have HI : Hid (decide (0 ≤ i) = (List.range n).any fun i => P (o + i)) := hi
  clear hi
  go_wp2
  go_ret
  exact ⟨retB (by rw [← HI.out]), rfl⟩
theorem run_sliceS (b a c : Nat) (hac : a ≤ c) (hc : c < 40) (W : World) :
    (Instr.sliceAt 45 (.pointer (some ⟨b, 0, none⟩)) (some (.int .i64 ((a : Int) + 1))) (some (.int .i64 ((c : Int) + 1))) none).run Try.prog W = .ok (.slice (some ⟨b, if 40 = a + 1 then 0 else a + 1, none⟩) (c - a) (40 - (a + 1))) W := by
  obtain ⟨i0, hi, _, hz1, _⟩ := info_parts infoB
  have hu : Try.prog.underlying 45 = some (.array (Try.prog.arrayLen 45) (Try.prog.elem 45)) := by kernel_rfl
  have e1 : Try.prog.arrayLen 45 = 40 := by kernel_rfl
  have e2 : Try.prog.elem 45 = 4 := by kernel_rfl
  rw [run_sliceAt_array_lh W _ _ hu .i64 .i64 _ _ (by omega) (by omega) (by rw [e1]; omega), e2, run_sizeOf W hi, cellsB, e1, Result.andThen_ok]
  have t1 : ((a : Int) + 1).toNat = a + 1 := by omega
  have t2 : ((c : Int) + 1).toNat = c + 1 := by omega
  have t3 : c + 1 - (a + 1) = c - a := by omega
  unfold slicedAt
  rw [t1, t2, t3]
  split
  · rfl
  · rw [Nat.mul_one, Go.WideShapes.add_plain, Nat.zero_add]
set_option maxRecDepth 100000 in
set_option maxHeartbeats 2000000 in
theorem implStraight (g cap : Nat) (l : List Tx.Ins) (n m : Int) (hl : l.length ≤ 1048576) (w : World) (hr : Row w g 0 l) :
    Calls Try.prog 24 #[.slice (some ⟨g, 0, none⟩) l.length cap, .int .i64 n, .int .i64 m] w fun e w' => e = .returned (.bool (strA l n m)) ∧ Below w.heap.size w w' := by
  have HR : Hid (Row w g 0 l) := hr
  clear hr
  go_enter Try.func24, Try.ntmps24
  go_wp2_with fail
  refine (implCodeOk g cap l hl w HR.out).mono ?_
  rintro e w1 ⟨rfl, hb1⟩
  cases hok : Lay.codeOk l
  · have HE : Hid (strA l n m = false) := by show _ = _; simp [strA, atB, hok]
    clear hok
    go_wp2
    go_ret
    exact ⟨retB HE.out.symm, hb1⟩
  · have hl40 := (Lay.ok_len hok).2
    go_wp2_with fail
    refine (isBelow n l.length w1).mono ?_
    rintro e _ ⟨rfl, rfl⟩
    cases hn : (decide (0 ≤ n) && decide (n < (l.length : Int)))
    · have HE : Hid (strA l n m = false) := by show _ = _; simp only [strA, atB, hok, hn]; rfl
      clear hok
      go_wp2
      go_ret
      exact ⟨retB HE.out.symm, hb1⟩
    · go_wp2_with fail
      refine (isBelow m l.length w1).mono ?_
      rintro e _ ⟨rfl, rfl⟩
      cases hm : (decide (0 ≤ m) && decide (m < (l.length : Int)))
      · have HE : Hid (strA l n m = false) := by show _ = _; simp only [strA, atB, hok, hn, hm]; rfl
        clear hok
        go_wp2
        go_ret
        exact ⟨retB HE.out.symm, hb1⟩
      · by_cases hnm : n ≤ m
        · have HE : Hid (strA l n m = strB l n.toNat m.toNat) := by show _ = _; simp only [strA, atB, hok, hn, hm]; simp [hnm]
          simp only [Bool.and_eq_true, decide_eq_true_eq] at hn hm
          obtain ⟨a, rfl⟩ := Int.eq_ofNat_of_zero_le hn.1
          obtain ⟨c, rfl⟩ := Int.eq_ofNat_of_zero_le hm.1
          rw [Int.toNat_natCast, Int.toNat_natCast] at HE
          have hac : a ≤ c := by omega
          have hcl : c < l.length := by omega
          have hnm' : ¬ (c : Int) < (a : Int) := by omega
          clear hn hm hnm
          go_wp2_with fail
          refine (leadersIn_at g cap l hok w1 (HR.out.on hb1)).mono ?_
          rintro e w2 ⟨rfl, hb2⟩
          have hw2 : Below w.heap.size w w2 := below_over hb1 hb2
          clear hb1 hb2 hok
          generalize hP : ldB l l.length = P at *
          have HP : Hid (ldB l l.length = P) := hP
          clear hP
          have C1L : Hid (Cells (w2.alloc (.cells (chi 40 fun _ => false).toArray 45)) w2.heap.size (chi 40 fun _ => false)) := Cells.new w2 _ rfl _ _
          have D1 : Hid (Cells ((w2.alloc (.cells (chi 40 fun _ => false).toArray 45)).setCells w2.heap.size 0 (chi 40 P)) w2.heap.size (chi 40 P)) := C1L.out.put (by rw [chi_len, chi_len])
          have hbD : Below w.heap.size w ((w2.alloc (.cells (chi 40 fun _ => false).toArray 45)).setCells w2.heap.size 0 (chi 40 P)) := below_setCells hw2.size _ _ (hw2.alloc hw2.size _)
          have hsl := run_sliceS w2.heap.size a c hac (by omega) ((w2.alloc (.cells (chi 40 fun _ => false).toArray 45)).setCells w2.heap.size 0 (chi 40 P))
          obtain ⟨o, ho⟩ : ∃ o, o = if 40 = a + 1 then 0 else a + 1 := ⟨_, rfl⟩
          rw [← ho] at hsl
          have HO : Hid (o + (c - a) ≤ 40 ∧ ∀ i, i < c - a → o + i = a + 1 + i) := by
            refine ⟨?_, fun i hi => ?_⟩
            · rw [ho]; split <;> omega
            · rw [ho, if_neg (by omega)]
          clear ho
          go_wp2_with (first
            | (with_reducible refine wpList_alloc_chi rfl 45 rfl 40 zeroS ?_)
            | (with_reducible refine wpList_store_mid rfl 45 (.tmp 8) (.tmp 32) rfl w2.heap.size 0 (chi 40 P).toArray (by simp [Act.eval, Act.put]) (by simp [Act.eval, Act.put]) (C1L.out.there (by simp [chi_len])) (by rw [infoS]; simp [chi_len]) (all_oneCell_toArray (chi_one _ _)) ?_))
          clear C1L hsl
          generalize (w2.alloc (.cells (chi 40 fun _ => false).toArray 45)).setCells w2.heap.size 0 (chi 40 P) = X at *
          refine (containsB_at w2.heap.size o (c - a) (39 - a) 40 (by omega) P HO.out.1 X D1.out).mono ?_
          rintro e _ ⟨rfl, rfl⟩
          have HF : Hid ((!((List.range (c - a)).any fun i => P (o + i))) = strA l (a : Int) (c : Int)) := by
            show _ = _
            rw [HE.out]
            unfold strB
            rw [HP.out, List.not_any_eq_all_not]
            rw [Bool.eq_iff_iff, List.all_eq_true, List.all_eq_true]
            constructor
            · intro h i hi; rw [← HO.out.2 i (List.mem_range.1 hi)]; exact h i hi
            · intro h i hi; rw [HO.out.2 i (List.mem_range.1 hi)]; exact h i hi
          go_wp2
          go_ret
          exact ⟨retB HF.out, hbD⟩
        · have HE : Hid (strA l n m = false) := by show _ = _; simp only [strA, atB, hok, hn, hm]; simp [hnm]
          have hnm' : m < n := by omega
          clear hok hn hm
          go_wp2
          go_ret
          exact ⟨retB HE.out.symm, hb1⟩
/-- No leader so far, from step a on below step i. -/
theorem strB_false {code : List Tx.Ins} {a b i : Nat} (h1 : a ≤ i) (h2 : i < b) (h : ldB code code.length (i + 1) = true) : strB code a b = false := by
  unfold strB
  rw [List.all_eq_false]
  refine ⟨i - a, List.mem_range.2 (by omega), ?_⟩
  rw [show a + 1 + (i - a) = i + 1 by omega, h]; simp
theorem strB_true {code : List Tx.Ins} {a b : Nat} (h : ∀ i, a ≤ i → i < b → ldB code code.length (i + 1) = false) : strB code a b = true := by
  unfold strB
  rw [List.all_eq_true]
  intro i hi
  have := h (a + i) (by omega) (by have := List.mem_range.1 hi; omega)
  rw [show a + 1 + i = a + i + 1 by omega, this]; rfl
set_option maxRecDepth 100000 in
set_option maxHeartbeats 2000000 in
theorem specStraight (g cap : Nat) (l : List Tx.Ins) (n m : Int) (hl : l.length ≤ 1048576) (w : World) (hr : Row w g 0 l) :
    Calls Try.prog 23 #[.slice (some ⟨g, 0, none⟩) l.length cap, .int .i64 n, .int .i64 m] w fun e w' => e = .returned (.bool (strA l n m)) ∧ Below w.heap.size w w' := by
  have HR : Hid (Row w g 0 l) := hr
  clear hr
  go_enter Try.func23, Try.ntmps23
  go_wp2_with fail
  refine (l9At_at g cap l n hl w HR.out).mono ?_
  rintro e w1 ⟨rfl, hb1⟩
  cases hn : atB l n
  · have HE : Hid (strA l n m = false) := by show _ = _; simp [strA, hn]
    clear hn
    go_wp2
    go_ret
    exact ⟨retB HE.out.symm, hb1⟩
  · go_wp2_with fail
    refine (l9At_at g cap l m hl w1 (HR.out.on hb1)).mono ?_
    rintro e w2 ⟨rfl, hb2⟩
    have hw2 : Below w.heap.size w w2 := below_over hb1 hb2
    clear hb1 hb2
    cases hm : atB l m
    · have HE : Hid (strA l n m = false) := by show _ = _; simp [strA, hm]
      clear hm hn
      go_wp2
      go_ret
      exact ⟨retB HE.out.symm, hw2⟩
    · by_cases hnm : n ≤ m
      · have HE : Hid (strA l n m = strB l n.toNat m.toNat) := by show _ = _; simp [strA, hn, hm, hnm]
        unfold atB at hn hm
        simp only [Bool.and_eq_true, decide_eq_true_eq] at hn hm
        obtain ⟨hok, hn⟩ := hn
        obtain ⟨_, hm⟩ := hm
        obtain ⟨a, rfl⟩ := Int.eq_ofNat_of_zero_le hn.1
        obtain ⟨c, rfl⟩ := Int.eq_ofNat_of_zero_le hm.1
        rw [Int.toNat_natCast, Int.toNat_natCast] at HE
        have hl40 := (Lay.ok_len hok).2
        have lg : g < w.heap.size := cell_lt (HR.out 0 _ (ins_is (Lay.ok_len hok).1)).1
        have hac : a ≤ c := by omega
        have hcl : c < l.length := by omega
        have hnm' : ¬ (c : Int) < (a : Int) := by omega
        clear hn hm hnm
        go_wp2_with fail
        refine (l9Leaders_at g cap l hok w2 (HR.out.on hw2)).mono ?_
        rintro e w3 ⟨v, rfl, hls, hb3⟩
        obtain ⟨gv, cv, rfl, hcv, hgv, hrv⟩ := hls
        have HRV : Hid (IRow w3 gv 0 (risL (ldB l l.length) 40)) := hrv
        have hw3 : Below w.heap.size w w3 := below_over hw2 hb3
        have hlr := risL_len (ldB l l.length) 40
        have R3 : Hid (Row w3 g 0 l) := HR.out.on hw3
        clear hb3 hw2 hrv
        go_wp2_with fail
        go_loopw [8] (fun i wr => ∃ k : Nat, a ≤ k ∧ k ≤ c ∧ i = .int .i64 (k : Int) ∧ Hid (∀ i, a ≤ i → i < k → ldB l l.length (i + 1) = false) ∧ wr = w3) (fun i _ => c - (intOf i).toNat)
        case atStart => exact ⟨a, Nat.le_refl _, hac, rfl, fun i h1 h2 => by omega, rfl⟩
        case round =>
          obtain ⟨k, hak, hkc, rfl, hno, rfl⟩ := hrel
          by_cases hlt : k < c
          · have hki : (k : Int) < (c : Int) := by omega
            have hkl : (k : Int) < (l.length : Int) := by omega
            obtain ⟨d0, d1, d2⟩ := R3.out k _ (ins_is (show k < l.length by omega))
            simp only [Nat.zero_add] at d0 d1 d2
            have HEN : Hid (endB (insF l k).1 = true → ldB l l.length (k + 1) = true) := end_leads (by omega)
            generalize insF l k = ins at *
            obtain ⟨op, x, y⟩ := ins
            dsimp only at d0 d1 d2 HEN
            have hld := ld_has (code := l) (k + 1) (by omega)
            have hcast : (((k + 1 : Nat)) : Int) = (k : Int) + 1 := by omega
            rw [hcast] at hld
            have HLD : Hid (decide ((k : Int) + 1 ∈ risL (ldB l l.length) 40) = ldB l l.length (k + 1)) := hld
            clear hld hcast
            go_wp2_with fail
            refine (l1Has gv cv (risL (ldB l l.length) 40) ((k : Int) + 1) (by omega) wr HRV.out).mono ?_
            rw [HLD.out]
            rintro e wr ⟨rfl, rfl⟩
            cases hL : ldB l l.length (k + 1)
            · have hNE : endB op = false := by
                cases he : endB op
                · rfl
                · have := HEN.out he; rw [hL] at this; simp at this
              have hj : Lay.jumpB op = false := by unfold endB at hNE; simp only [Bool.or_eq_false_iff] at hNE; exact hNE.1
              have h20 : (op == 20) = false := by unfold endB at hNE; simp only [Bool.or_eq_false_iff, decide_eq_false_iff_not] at hNE; simp [hNE.2]
              have HN : Hid (∀ i, a ≤ i → i < k + 1 → ldB l l.length (i + 1) = false) := fun i h1 h2 => by
                rcases Nat.lt_or_ge i k with h | h
                · exact hno.out i h1 h
                · rw [show i = k by omega]; exact hL
              clear hNE hL HEN HLD hno
              go_wp2_with fail
              refine (St.l3Jump op wr).mono ?_
              rw [hj]
              rintro e _ ⟨rfl, rfl⟩
              clear hj
              go_wp2
              go_roundw
              case rel => exact ⟨k + 1, by omega, by omega, by go_num, HN.out, by simp⟩
              case measure => simp [intOf]; omega
            · have HF : Hid (strA l (a : Int) (c : Int) = false) := by show _ = _; rw [HE.out]; exact strB_false hak hlt hL
              clear hL HEN HLD hno
              go_wp2
              go_ret
              exact ⟨retB HF.out.symm, hw3⟩
          · have HF : Hid (strA l (a : Int) (c : Int) = true) := by show _ = _; rw [HE.out]; exact strB_true fun i h1 h2 => hno.out i h1 (by omega)
            have hki : ¬ (k : Int) < (c : Int) := by omega
            clear hno
            go_wp2
            go_ret
            exact ⟨retB HF.out.symm, hw3⟩
      · have HE : Hid (strA l n m = false) := by show _ = _; simp [strA, hnm]
        have hnm' : m < n := by omega
        clear hn hm
        go_wp2
        go_ret
        exact ⟨retB HE.out.symm, hw2⟩
end Pg
end Go.Proofs.Ytajjoanfojaeiaa

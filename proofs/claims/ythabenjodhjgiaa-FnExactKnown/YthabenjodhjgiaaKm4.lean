/- Contracts: what a spot tells is passed on. -/
import Derived.Test.YthabenjodhjgiaaKm3
import Derived.Deep.RegionLaw
import Derived.Deep.Cut
namespace Go.Proofs.Ythabenjodhjgiaa
namespace Pg
open Go.ChangeShapes Go.WideShapes Go.ChangeAt Go.RowKit St Wd

theorem push_ok0 {code : List Tx.Ins} (hok : Lay.codeOk code = true) {k : Nat} (hk : k < code.length) (h : (insF code k).1 = 1) : okB (insF code k).2.1 = true := by
  have := Lay.ok_at hok (ins_is hk)
  unfold Tx.okI at this
  rw [if_pos h] at this
  simp only [Bool.and_eq_true, decide_eq_true_eq] at this
  simp [okB, this.1]
theorem meetP {P G : Prop} (h : P → G) (p : P) : G := h p
def passK (code : List Tx.Ins) (i s : Nat) (v : Int) (m : Kw) : Kw := (tellsF code i s v).foldl (fun m p => tellK code i m p.1.toNat p.2) m
theorem store_in {code : List Tx.Ins} (hok : Lay.codeOk code = true) {k : Nat} (hk : k < code.length) (h : (insF code k).1 = 3 ∨ (insF code k).1 = 2) : 0 ≤ (insF code k).2.1 ∧ (insF code k).2.1 < 8 := by
  have := Lay.ok_at hok (ins_is hk)
  unfold Tx.okI at this
  rw [if_neg (by omega)] at this
  unfold Tx.limA at this
  simp only [Bool.and_eq_true, decide_eq_true_eq] at this
  rw [if_pos (by omega)] at this
  omega
theorem stored_ok {code : List Tx.Ins} (hok : Lay.codeOk code = true) {k : Nat} (hk : k < code.length) : ((storedF code k).1 = 1 ∨ (storedF code k).1 = 2) ∧ -9223372036854775808 ≤ (storedF code k).2.1 ∧ (storedF code k).2.1 ≤ 9223372036854775807 := by
  unfold storedF
  split
  · exact ⟨.inl rfl, by decide, by decide⟩
  · split
    · rename_i h
      refine ⟨h, ?_⟩
      rcases h with h | h
      · have := ok_yes (push_ok0 hok (k := k - 1) (by omega) h)
        omega
      · have := store_in hok (k := k - 1) (by omega) (.inr h)
        omega
    · exact ⟨.inl rfl, by decide, by decide⟩
set_option maxRecDepth 100000 in
set_option maxHeartbeats 2000000 in
theorem passOn_at (g cap L : Nat) (a b c : Nat) (code : List Tx.Ins) (hok : Lay.codeOk code = true) (i : Nat) (hi : i < code.length) (s : Nat) (hs : s < 8) (v : Int) (h1 : -9223372036854775808 ≤ v) (h2 : v ≤ 9223372036854775807)
    (w : World) (hrow : Row w g 0 code) (hL : Cells w L (lrnC (.slice (some ⟨g, 0, none⟩) code.length cap) (ldB code code.length) a b c)) (hLc : L ≠ c) (hgc : g ≠ c) (m : Kw) (hm : KM w c m) :
    Calls Try.prog 73 #[.pointer (some ⟨L, 0, none⟩), spV i s, .int .i64 v] w fun e w' => e = .returned (.tuple #[]) ∧ KM w' c (passK code i s v m) ∧ w.grownBy w' (some c) := by
  obtain ⟨c0, _⟩ := hL 0 _ rfl
  have hLl : L < w.heap.size := cell_lt c0
  have hgl : g < w.heap.size := cell_lt (hrow 0 _ (ins_is (Lay.ok_len hok).1)).1
  obtain ⟨d0, d1, d2⟩ := hrow i _ (ins_is hi)
  simp only [Nat.zero_add] at d0 d1 d2
  have hil : (i : Int) < (code.length : Int) := by omega
  have HL : Hid (Cells w L (lrnC (.slice (some ⟨g, 0, none⟩) code.length cap) (ldB code code.length) a b c)) := hL
  have HR : Hid (Row w g 0 code) := hrow
  have HM : Hid (KM w c m) := hm
  clear hL hrow hm
  have HST := stored_ok hok hi
  have HP : Hid (∀ m, passK code i s v m = (tellsF code i s v).foldl (fun m p => tellK code i m p.1.toNat p.2) m) := fun _ => rfl
  have HSI : Hid ((insF code i).1 = 3 → 0 ≤ (insF code i).2.1 ∧ (insF code i).2.1 < 8) := fun h => store_in hok hi (.inl h)
  have HT : Hid (tellsF code i s v = if (insF code i).1 ≠ 3 then [((s : Int), v)]
    else (if (s : Int) ≠ (insF code i).2.1 then [((s : Int), v)] else []) ++ (if (storedF code i).1 = 2 ∧ (storedF code i).2.1 = (s : Int) then [((insF code i).2.1, v)] else []) ++
      (if (storedF code i).1 = 1 ∧ (insF code i).2.1 = (s : Int) then [((insF code i).2.1, (storedF code i).2.1)] else [])) := rfl
  generalize insF code i = ins at *
  obtain ⟨op, A, B⟩ := ins
  dsimp only at d0 d1 d2 HT HSI
  have HST' : Hid (((storedF code i).1 = 1 ∨ (storedF code i).1 = 2) ∧ -9223372036854775808 ≤ (storedF code i).2.1 ∧ (storedF code i).2.1 ≤ 9223372036854775807) := HST
  clear HST
  go_enter Try.func73, Try.ntmps73
  go_upto_region 1 with fail
  apply meetP
  case h => intro hp; go_region_law fail; all_goals exact hp
  obtain ⟨X, hX⟩ : ∃ X, X = ((w.alloc (.cells #[.int .i64 (i : Int), .int .i64 (s : Int)] 51)).alloc (.cells #[.int .i64 op, .int .i64 A, .int .i64 B] 43)).drew := ⟨_, rfl⟩
  rw [← hX]
  have hbX : Below w.heap.size w X := by rw [hX]; exact ((((Below.refl _ _).alloc (Nat.le_refl _) _).alloc (by simp) _).drew)
  have CS : Hid (Cells X w.heap.size [.int .i64 (i : Int), .int .i64 (s : Int)]) := by show Cells _ _ _; rw [hX]; exact (Cells.new w _ rfl _ _).alloc _
  have CI : Hid (Cells X (w.heap.size + 1) [.int .i64 op, .int .i64 A, .int .i64 B]) := by show Cells _ _ _; rw [hX]; exact Cells.new (w.alloc _) _ (by simp) _ _
  have HLX : Hid (Cells X L (lrnC (.slice (some ⟨g, 0, none⟩) code.length cap) (ldB code code.length) a b c)) := HL.out.on hbX
  have HRX : Hid (Row X g 0 code) := HR.out.on hbX
  have HMX : Hid (KM X c m) := HM.out.on hbX
  have hcl : c < w.heap.size := HM.out.lt
  have hszX : X.heap.size = w.heap.size + 2 := by rw [hX]; simp
  have hgX : w.grownBy X (some c) := gb_of hbX _
  have hLX : L < X.heap.size := by omega
  have hgXl : g < X.heap.size := by omega
  have hn1 : w.heap.size < X.heap.size := by omega
  have hn2 : w.heap.size + 1 < X.heap.size := by omega
  clear hX hbX HL HR HM c0 d0 d1 d2
  have HSZ : Hid (X.heap.size = w.heap.size + 2) := hszX
  clear hszX
  by_cases h3 : op = 3
  · subst h3
    obtain ⟨An, rfl⟩ : ∃ An : Nat, A = (An : Int) := ⟨A.toNat, by have := HSI.out rfl; omega⟩
    have hA8 : An < 8 := by have := HSI.out rfl; omega
    have HT3 : Hid (passK code i s v m = ((if (s : Int) ≠ (An : Int) then [((s : Int), v)] else []) ++ (if (storedF code i).1 = 2 ∧ (storedF code i).2.1 = (s : Int) then [((An : Int), v)] else []) ++
      (if (storedF code i).1 = 1 ∧ (An : Int) = (s : Int) then [((An : Int), (storedF code i).2.1)] else [])).foldl (fun m p => tellK code i m p.1.toNat p.2) m) := by
      show _ = _
      rw [HP.out, HT.out]
      simp
    clear HT HP HSI
    obtain ⟨c0, _⟩ := CS.out 0 _ rfl
    obtain ⟨c1, _⟩ := CS.out 1 _ rfl
    obtain ⟨d0, _⟩ := CI.out 0 _ rfl
    obtain ⟨d1, _⟩ := CI.out 1 _ rfl
    rcases Classical.em ((s : Int) = (An : Int)) with hsA | hsA
    · have hne : ((s : Int) != (An : Int)) = false := by simp [hsA]
      have hne2 : s = An := by omega
      have HQ : Hid (passK code i s v m = ((if (storedF code i).1 = 2 ∧ (storedF code i).2.1 = (s : Int) then [((An : Int), v)] else []) ++
        (if (storedF code i).1 = 1 ∧ (An : Int) = (s : Int) then [((An : Int), (storedF code i).2.1)] else [])).foldl (fun m p => tellK code i m p.1.toNat p.2) m) := by
        show _ = _
        rw [HT3.out, if_neg (by simpa using hsA), List.nil_append]
      have HSA : Hid (s = An) := hne2
      clear hsA hne2 HT3
      go_upto_region 6 with fail
      obtain ⟨w1, hw1⟩ : ∃ w1, w1 = X := ⟨X, rfl⟩
      have hk1 : KM w1 c m := by rw [hw1]; exact HMX.out
      have hg1 : X.grownBy w1 (some c) := by rw [hw1]; exact gb_of (Below.refl _ _) _
      rw [← hw1]
      obtain ⟨m1, hm1⟩ : ∃ m1, m1 = m := ⟨m, rfl⟩
      rw [← hm1] at hk1
      have HQ1 : Hid (passK code i s v m = ((if (storedF code i).1 = 2 ∧ (storedF code i).2.1 = (s : Int) then [((An : Int), v)] else []) ++
        (if (storedF code i).1 = 1 ∧ (An : Int) = (s : Int) then [((An : Int), (storedF code i).2.1)] else [])).foldl (fun m p => tellK code i m p.1.toNat p.2) m1) := by rw [hm1]; exact HQ
      have HK1 : Hid (KM w1 c m1) := hk1
      clear HSA hw1 hm1 hk1 HQ c0 c1 d0 d1 hne
      have CS1 := CS.out.gb hg1 (Nat.ne_of_gt hcl) hn1
      have CI1 := CI.out.gb hg1 (by omega) hn2
      have HL1 := HLX.out.gb hg1 hLc hLX
      have HR1 := row_gb HRX.out hg1 hgc hgXl
      have hz1 : w.heap.size + 2 ≤ w1.heap.size := by have := hg1.size; have := HSZ.out; omega
      have hgw1 : w.grownBy w1 (some c) := gb_trans hgX hg1
      clear CS CI HLX HRX HMX hg1 hgX hLX hgXl hn1 hn2 HSZ
      obtain ⟨c0, _⟩ := CS1 0 _ rfl
      have HCS : Hid (Cells w1 w.heap.size [.int .i64 (i : Int), .int .i64 (s : Int)]) := CS1
      have HCI : Hid (Cells w1 (w.heap.size + 1) [.int .i64 3, .int .i64 (An : Int), .int .i64 B]) := CI1
      have HLL : Hid (Cells w1 L (lrnC (.slice (some ⟨g, 0, none⟩) code.length cap) (ldB code code.length) a b c)) := HL1
      have HRR : Hid (Row w1 g 0 code) := HR1
      clear CS1 CI1 HL1 HR1
      go_wp2_with fail
      refine (storedAt_at g cap L a b c code hok i hi w1 HRR.out HLL.out).mono ?_
      rintro e w2 ⟨rfl, hb2⟩
      have hz2 : w1.heap.size ≤ w2.heap.size := hb2.size
      generalize storedF code i = st at *
      obtain ⟨so, sA, sB⟩ := st
      dsimp only at HQ1 HST'
      obtain ⟨Y, hY⟩ : ∃ Y, Y = w2.alloc (.cells #[.int .i64 so, .int .i64 sA, .int .i64 sB] 43) := ⟨_, rfl⟩
      have hbY : Below w1.heap.size w1 Y := by rw [hY]; exact hb2.alloc hb2.size _
      have y0 := HCS.out.on hbY
      have y1 := HCI.out.on hbY
      have y2 : Cells Y w2.heap.size [.int .i64 so, .int .i64 sA, .int .i64 sB] := by rw [hY]; exact Cells.new w2 _ rfl _ _
      have HLY : Hid (Cells Y L (lrnC (.slice (some ⟨g, 0, none⟩) code.length cap) (ldB code code.length) a b c)) := HLL.out.on hbY
      have HRY : Hid (Row Y g 0 code) := HRR.out.on hbY
      have HKY : Hid (KM Y c m1) := HK1.out.on hbY
      have hgY : w.grownBy Y (some c) := gb_trans hgw1 (gb_of hbY _)
      go_upto_region 7 with fail
      rw [← hY]
      clear hY hbY hb2 HCS HCI HLL HRR HK1 c0
      obtain ⟨c0, _⟩ := y0 0 _ rfl
      obtain ⟨c1, _⟩ := y0 1 _ rfl
      obtain ⟨d1, _⟩ := y1 1 _ rfl
      obtain ⟨e0, _⟩ := y2 0 _ rfl
      obtain ⟨e1, _⟩ := y2 1 _ rfl
      clear y0 y1 y2
      obtain ⟨hso, hsl, hsh⟩ := HST'.out
      clear HST'
      rcases hso with rfl | rfl
      · by_cases hAs : An = s
        · subst hAs
          have HF : Hid (passK code i An v m = tellK code i m1 An sA) := by show _ = _; rw [HQ1.out]; simp
          clear HQ1
          go_wp2_with fail
          refine (tell_at g cap L a b c _ code hok i hi An hA8 sA hsl hsh Y HRY.out HLY.out hLc m1 HKY.out).mono ?_
          rintro e w3 ⟨rfl, hk3, hg3⟩
          have HK : Hid (KM w3 c (passK code i An v m)) := by show KM _ _ _; rw [HF.out]; exact hk3
          clear hk3 HF
          go_wp2
          refine bodyPost_end (results_none rfl _ _ _) rfl ?_
          exact ⟨rfl, HK.out, gb_trans hgY hg3⟩
        · have HK : Hid (KM Y c (passK code i s v m)) := by
            show KM _ _ _
            rw [HQ1.out]
            have : ¬ (An : Int) = (s : Int) := by omega
            simp only [this, and_false, if_false]
            exact HKY.out
          have hbe : ((An : Int) == (s : Int)) = false := by simp; omega
          clear HQ1
          go_wp2
          refine bodyPost_end (results_none rfl _ _ _) rfl ?_
          exact ⟨rfl, HK.out, hgY⟩
      · by_cases hAs : sA = (s : Int)
        · subst hAs
          have HF : Hid (passK code i s v m = tellK code i m1 An v) := by show _ = _; rw [HQ1.out]; simp
          clear HQ1
          go_wp2_with fail
          refine (tell_at g cap L a b c _ code hok i hi An hA8 v h1 h2 Y HRY.out HLY.out hLc m1 HKY.out).mono ?_
          rintro e w3 ⟨rfl, hk3, hg3⟩
          have HK : Hid (KM w3 c (passK code i s v m)) := by show KM _ _ _; rw [HF.out]; exact hk3
          have hw2l : w2.heap.size < Y.heap.size := cell_lt e0
          have f0 := (World.cell?_of_block (a := ⟨w2.heap.size, 0, none⟩) (hg3.block w2.heap.size hw2l (by simp; omega))).trans e0
          clear hk3 HF
          go_wp2
          refine bodyPost_end (results_none rfl _ _ _) rfl ?_
          exact ⟨rfl, HK.out, gb_trans hgY hg3⟩
        · have HK : Hid (KM Y c (passK code i s v m)) := by
            show KM _ _ _
            rw [HQ1.out]
            simp only [hAs, and_false, if_false]
            exact HKY.out
          have hbe : (sA == (s : Int)) = false := by simp [hAs]
          clear HQ1
          go_wp2
          refine bodyPost_end (results_none rfl _ _ _) rfl ?_
          exact ⟨rfl, HK.out, hgY⟩
    · have hne : ((s : Int) != (An : Int)) = true := by simp; omega
      have hne2 : ¬ s = An := by omega
      go_wp2_with fail
      refine (tell_at g cap L a b c _ code hok i hi s hs v h1 h2 X HRX.out HLX.out hLc m HMX.out).mono ?_
      rintro e w1 ⟨rfl, hk1, hg1⟩
      have HQ1 : Hid (passK code i s v m = ((if (storedF code i).1 = 2 ∧ (storedF code i).2.1 = (s : Int) then [((An : Int), v)] else []) ++
        (if (storedF code i).1 = 1 ∧ (An : Int) = (s : Int) then [((An : Int), (storedF code i).2.1)] else [])).foldl (fun m p => tellK code i m p.1.toNat p.2) (tellK code i m s v)) := by
        show _ = _
        rw [HT3.out, if_pos hsA, List.append_assoc, List.foldl_append]
        rfl
      have HK1 : Hid (KM w1 c (tellK code i m s v)) := hk1
      generalize tellK code i m s v = m1 at *
      clear c0 c1 d0 d1 hne hsA hne2 HT3 hk1
      go_upto_region 6 with fail
      have CS1 := CS.out.gb hg1 (Nat.ne_of_gt hcl) hn1
      have CI1 := CI.out.gb hg1 (by omega) hn2
      have HL1 := HLX.out.gb hg1 hLc hLX
      have HR1 := row_gb HRX.out hg1 hgc hgXl
      have hz1 : w.heap.size + 2 ≤ w1.heap.size := by have := hg1.size; have := HSZ.out; omega
      have hgw1 : w.grownBy w1 (some c) := gb_trans hgX hg1
      clear CS CI HLX HRX HMX hg1 hgX hLX hgXl hn1 hn2 HSZ
      obtain ⟨c0, _⟩ := CS1 0 _ rfl
      have HCS : Hid (Cells w1 w.heap.size [.int .i64 (i : Int), .int .i64 (s : Int)]) := CS1
      have HCI : Hid (Cells w1 (w.heap.size + 1) [.int .i64 3, .int .i64 (An : Int), .int .i64 B]) := CI1
      have HLL : Hid (Cells w1 L (lrnC (.slice (some ⟨g, 0, none⟩) code.length cap) (ldB code code.length) a b c)) := HL1
      have HRR : Hid (Row w1 g 0 code) := HR1
      clear CS1 CI1 HL1 HR1
      go_wp2_with fail
      refine (storedAt_at g cap L a b c code hok i hi w1 HRR.out HLL.out).mono ?_
      rintro e w2 ⟨rfl, hb2⟩
      have hz2 : w1.heap.size ≤ w2.heap.size := hb2.size
      generalize storedF code i = st at *
      obtain ⟨so, sA, sB⟩ := st
      dsimp only at HQ1 HST'
      obtain ⟨Y, hY⟩ : ∃ Y, Y = w2.alloc (.cells #[.int .i64 so, .int .i64 sA, .int .i64 sB] 43) := ⟨_, rfl⟩
      have hbY : Below w1.heap.size w1 Y := by rw [hY]; exact hb2.alloc hb2.size _
      have y0 := HCS.out.on hbY
      have y1 := HCI.out.on hbY
      have y2 : Cells Y w2.heap.size [.int .i64 so, .int .i64 sA, .int .i64 sB] := by rw [hY]; exact Cells.new w2 _ rfl _ _
      have HLY : Hid (Cells Y L (lrnC (.slice (some ⟨g, 0, none⟩) code.length cap) (ldB code code.length) a b c)) := HLL.out.on hbY
      have HRY : Hid (Row Y g 0 code) := HRR.out.on hbY
      have HKY : Hid (KM Y c m1) := HK1.out.on hbY
      have hgY : w.grownBy Y (some c) := gb_trans hgw1 (gb_of hbY _)
      go_upto_region 7 with fail
      rw [← hY]
      clear hY hbY hb2 HCS HCI HLL HRR HK1 c0
      obtain ⟨c0, _⟩ := y0 0 _ rfl
      obtain ⟨c1, _⟩ := y0 1 _ rfl
      obtain ⟨d1, _⟩ := y1 1 _ rfl
      obtain ⟨e0, _⟩ := y2 0 _ rfl
      obtain ⟨e1, _⟩ := y2 1 _ rfl
      clear y0 y1 y2
      obtain ⟨hso, hsl, hsh⟩ := HST'.out
      clear HST'
      rcases hso with rfl | rfl
      · by_cases hAs : An = s
        · subst hAs
          have HF : Hid (passK code i An v m = tellK code i m1 An sA) := by show _ = _; rw [HQ1.out]; simp
          clear HQ1
          go_wp2_with fail
          refine (tell_at g cap L a b c _ code hok i hi An hA8 sA hsl hsh Y HRY.out HLY.out hLc m1 HKY.out).mono ?_
          rintro e w3 ⟨rfl, hk3, hg3⟩
          have HK : Hid (KM w3 c (passK code i An v m)) := by show KM _ _ _; rw [HF.out]; exact hk3
          clear hk3 HF
          go_wp2
          refine bodyPost_end (results_none rfl _ _ _) rfl ?_
          exact ⟨rfl, HK.out, gb_trans hgY hg3⟩
        · have HK : Hid (KM Y c (passK code i s v m)) := by
            show KM _ _ _
            rw [HQ1.out]
            have : ¬ (An : Int) = (s : Int) := by omega
            simp only [this, and_false, if_false]
            exact HKY.out
          have hbe : ((An : Int) == (s : Int)) = false := by simp; omega
          clear HQ1
          go_wp2
          refine bodyPost_end (results_none rfl _ _ _) rfl ?_
          exact ⟨rfl, HK.out, hgY⟩
      · by_cases hAs : sA = (s : Int)
        · subst hAs
          have HF : Hid (passK code i s v m = tellK code i m1 An v) := by show _ = _; rw [HQ1.out]; simp
          clear HQ1
          go_wp2_with fail
          refine (tell_at g cap L a b c _ code hok i hi An hA8 v h1 h2 Y HRY.out HLY.out hLc m1 HKY.out).mono ?_
          rintro e w3 ⟨rfl, hk3, hg3⟩
          have HK : Hid (KM w3 c (passK code i s v m)) := by show KM _ _ _; rw [HF.out]; exact hk3
          have hw2l : w2.heap.size < Y.heap.size := cell_lt e0
          have f0 := (World.cell?_of_block (a := ⟨w2.heap.size, 0, none⟩) (hg3.block w2.heap.size hw2l (by simp; omega))).trans e0
          clear hk3 HF
          go_wp2
          refine bodyPost_end (results_none rfl _ _ _) rfl ?_
          exact ⟨rfl, HK.out, gb_trans hgY hg3⟩
        · have HK : Hid (KM Y c (passK code i s v m)) := by
            show KM _ _ _
            rw [HQ1.out]
            simp only [hAs, and_false, if_false]
            exact HKY.out
          have hbe : (sA == (s : Int)) = false := by simp [hAs]
          clear HQ1
          go_wp2
          refine bodyPost_end (results_none rfl _ _ _) rfl ?_
          exact ⟨rfl, HK.out, hgY⟩
  · have HQ : Hid (passK code i s v m = tellK code i m s v) := by show _ = _; rw [HP.out, HT.out]; simp [h3]
    have h3' : (op != 3) = true := by simp [h3]
    obtain ⟨c0, _⟩ := CS.out 0 _ rfl
    obtain ⟨c1, _⟩ := CS.out 1 _ rfl
    obtain ⟨d0, _⟩ := CI.out 0 _ rfl
    clear HT HP HSI h3
    go_wp2_with fail
    refine (tell_at g cap L a b c _ code hok i hi s hs v h1 h2 X HRX.out HLX.out hLc m HMX.out).mono ?_
    rintro e w1 ⟨rfl, hk1, hg1⟩
    have HK : Hid (KM w1 c (passK code i s v m)) := by show KM _ _ _; rw [HQ.out]; exact hk1
    go_wp2
    refine bodyPost_ret (results_none rfl _ _ _) rfl ?_
    exact ⟨rfl, HK.out, gb_trans hgX hg1⟩
end Pg
end Go.Proofs.Ythabenjodhjgiaa

/- Contracts: what a spot tells is passed on. -/
import Derived.Test.YtffkkhaiedhaiaaJKm3
import Derived.Deep.RegionLaw
import Derived.Deep.Cut
import Derived.Test.YtffkkhaiedhaiaaJLo1
namespace Go.Proofs.Ytffkkhaiedhaiaa
namespace Pg
open Go.ChangeShapes Go.WideShapes Go.ChangeAt Go.RowKit St Wd

theorem push_ok0 {code : List Tx.Ins} (hok : Lay.codeOk code = true) {k : Nat} (hk : k < code.length) (h : (insF code k).1 = 1) : okB (insF code k).2.1 = true := by
  have := Lay.ok_at hok (ins_is hk)
  unfold Tx.okI at this
  rw [if_pos h] at this
  simp only [Bool.and_eq_true, decide_eq_true_eq] at this
  simp [okB, this.1]
theorem meetP {P G : Prop} (h : P → G) (p : P) : G := h p
def passK (code : List Tx.Ins) (i s : Nat) (v : Int) (m : Kw) : Kw := (tellsF code i s v).foldl (fun m p => tellK code i m p.1.toNat p.2) m
theorem store_in {code : List Tx.Ins} (hok : Lay.codeOk code = true) {k : Nat} (hk : k < code.length) (h : (insF code k).1 = 3 ∨ (insF code k).1 = 2) : 0 ≤ (insF code k).2.1 ∧ (insF code k).2.1 < 8 := by
  have := Lay.ok_at hok (ins_is hk)
  unfold Tx.okI at this
  rw [if_neg (by omega)] at this
  unfold Tx.limA at this
  simp only [Bool.and_eq_true, decide_eq_true_eq] at this
  rw [if_pos (by omega)] at this
  omega
theorem stored_ok {code : List Tx.Ins} (hok : Lay.codeOk code = true) {k : Nat} (hk : k < code.length) : ((storedF code k).1 = 1 ∨ (storedF code k).1 = 2) ∧ -9223372036854775808 ≤ (storedF code k).2.1 ∧ (storedF code k).2.1 ≤ 9223372036854775807 := by
  unfold storedF
  split
  · exact ⟨.inl rfl, by decide, by decide⟩
  · split
    · rename_i h
      refine ⟨h, ?_⟩
      rcases h with h | h
      · have := ok_yes (push_ok0 hok (k := k - 1) (by omega) h)
        omega
      · have := store_in hok (k := k - 1) (by omega) (.inr h)
        omega
    · exact ⟨.inl rfl, by decide, by decide⟩
set_option maxRecDepth 100000 in
set_option maxHeartbeats 2000000 in
theorem passOn_at (g cap L : Nat) (a b c : Nat) (code : List Tx.Ins) (hok : Lay.codeOk code = true) (i : Nat) (hi : i < code.length) (s : Nat) (hs : s < 8) (v : Int) (h1 : -9223372036854775808 ≤ v) (h2 : v ≤ 9223372036854775807)
    (w : World) (hrow : Row w g 0 code) (hL : Cells w L (lrnC (.slice (some ⟨g, 0, none⟩) code.length cap) (ldB code code.length) a b c)) (hLc : L ≠ c) (hgc : g ≠ c) (m : Kw) (hm : KM w c m) :
    Calls Try.prog 112 #[.pointer (some ⟨L, 0, none⟩), spV i s, .int .i64 v] w fun e w' => e = .returned (.tuple #[]) ∧ KM w' c (passK code i s v m) ∧ w.grownBy w' (some c) := by
  obtain ⟨c0, _⟩ := hL 0 _ rfl
  have hLl : L < w.heap.size := cell_lt c0
  have hgl : g < w.heap.size := cell_lt (hrow 0 _ (ins_is (Lay.ok_len hok).1)).1
  obtain ⟨d0, d1, d2⟩ := hrow i _ (ins_is hi)
  simp only [Nat.zero_add] at d0 d1 d2
  have hil : (i : Int) < (code.length : Int) := by omega
  have HL : Hid (Cells w L (lrnC (.slice (some ⟨g, 0, none⟩) code.length cap) (ldB code code.length) a b c)) := hL
  have HR : Hid (Row w g 0 code) := hrow
  have HM : Hid (KM w c m) := hm
  clear hL hrow hm
  have HST := stored_ok hok hi
  have HP : Hid (∀ m, passK code i s v m = (tellsF code i s v).foldl (fun m p => tellK code i m p.1.toNat p.2) m) := fun _ => rfl
  have HSI : Hid ((insF code i).1 = 3 → 0 ≤ (insF code i).2.1 ∧ (insF code i).2.1 < 8) := fun h => store_in hok hi (.inl h)
  have HT : Hid (tellsF code i s v = if (insF code i).1 ≠ 3 then [((s : Int), v)]
    else (if (s : Int) ≠ (insF code i).2.1 then [((s : Int), v)] else []) ++ (if (storedF code i).1 = 2 ∧ (storedF code i).2.1 = (s : Int) then [((insF code i).2.1, v)] else []) ++
      (if (storedF code i).1 = 1 ∧ (insF code i).2.1 = (s : Int) then [((insF code i).2.1, (storedF code i).2.1)] else [])) := rfl
  generalize insF code i = ins at *
  obtain ⟨op, A, B⟩ := ins
  dsimp only at d0 d1 d2 HT HSI
  have HST' : Hid (((storedF code i).1 = 1 ∨ (storedF code i).1 = 2) ∧ -9223372036854775808 ≤ (storedF code i).2.1 ∧ (storedF code i).2.1 ≤ 9223372036854775807) := HST
  clear HST
  go_enter Try.func112, Try.ntmps112
  go_upto_region 1 with fail
  apply meetP
  case h => intro hp; go_region_law fail; all_goals exact hp
  obtain ⟨X, hX⟩ : ∃ X, X = ((w.alloc (.cells #[.int .i64 (i : Int), .int .i64 (s : Int)] 102)).alloc (.cells #[.int .i64 op, .int .i64 A, .int .i64 B] 76)).drew := ⟨_, rfl⟩
  rw [← hX]
  have hbX : Below w.heap.size w X := by rw [hX]; exact ((((Below.refl _ _).alloc (Nat.le_refl _) _).alloc (by simp) _).drew)
  have CS : Hid (Cells X w.heap.size [.int .i64 (i : Int), .int .i64 (s : Int)]) := by show Cells _ _ _; rw [hX]; exact (Cells.new w _ rfl _ _).alloc _
  have CI : Hid (Cells X (w.heap.size + 1) [.int .i64 op, .int .i64 A, .int .i64 B]) := by show Cells _ _ _; rw [hX]; exact Cells.new (w.alloc _) _ (by simp) _ _
  have HLX : Hid (Cells X L (lrnC (.slice (some ⟨g, 0, none⟩) code.length cap) (ldB code code.length) a b c)) := HL.out.on hbX
  have HRX : Hid (Row X g 0 code) := HR.out.on hbX
  have HMX : Hid (KM X c m) := HM.out.on hbX
  have hcl : c < w.heap.size := HM.out.lt
  have hszX : X.heap.size = w.heap.size + 2 := by rw [hX]; simp
  have hgX : w.grownBy X (some c) := gb_of hbX _
  have hLX : L < X.heap.size := by omega
  have hgXl : g < X.heap.size := by omega
  have hn1 : w.heap.size < X.heap.size := by omega
  have hn2 : w.heap.size + 1 < X.heap.size := by omega
  clear hX hbX HL HR HM c0 d0 d1 d2
  have HSZ : Hid (X.heap.size = w.heap.size + 2) := hszX
  clear hszX
  by_cases h3 : op = 3
  · subst h3
    obtain ⟨An, rfl⟩ : ∃ An : Nat, A = (An : Int) := ⟨A.toNat, by have := HSI.out rfl; omega⟩
    have hA8 : An < 8 := by have := HSI.out rfl; omega
    have HT3 : Hid (passK code i s v m = ((if (s : Int) ≠ (An : Int) then [((s : Int), v)] else []) ++ (if (storedF code i).1 = 2 ∧ (storedF code i).2.1 = (s : Int) then [((An : Int), v)] else []) ++
      (if (storedF code i).1 = 1 ∧ (An : Int) = (s : Int) then [((An : Int), (storedF code i).2.1)] else [])).foldl (fun m p => tellK code i m p.1.toNat p.2) m) := by
      show _ = _
      rw [HP.out, HT.out]
      simp
    clear HT HP HSI
    obtain ⟨c0, _⟩ := CS.out 0 _ rfl
    obtain ⟨c1, _⟩ := CS.out 1 _ rfl
    obtain ⟨d0, _⟩ := CI.out 0 _ rfl
    obtain ⟨d1, _⟩ := CI.out 1 _ rfl
    rcases Classical.em ((s : Int) = (An : Int)) with hsA | hsA
    · have hne : ((s : Int) != (An : Int)) = false := by simp [hsA]
      have hne2 : s = An := by omega
      have HQ : Hid (passK code i s v m = ((if (storedF code i).1 = 2 ∧ (storedF code i).2.1 = (s : Int) then [((An : Int), v)] else []) ++
        (if (storedF code i).1 = 1 ∧ (An : Int) = (s : Int) then [((An : Int), (storedF code i).2.1)] else [])).foldl (fun m p => tellK code i m p.1.toNat p.2) m) := by
        show _ = _
        rw [HT3.out, if_neg (by simpa using hsA), List.nil_append]
      have HSA : Hid (s = An) := hne2
      clear hsA hne2 HT3
      go_upto_region 6 with fail
      obtain ⟨w1, hw1⟩ : ∃ w1, w1 = X := ⟨X, rfl⟩
      have hk1 : KM w1 c m := by rw [hw1]; exact HMX.out
      have hg1 : X.grownBy w1 (some c) := by rw [hw1]; exact gb_of (Below.refl _ _) _
      rw [← hw1]
      obtain ⟨m1, hm1⟩ : ∃ m1, m1 = m := ⟨m, rfl⟩
      rw [← hm1] at hk1
      have HQ1 : Hid (passK code i s v m = ((if (storedF code i).1 = 2 ∧ (storedF code i).2.1 = (s : Int) then [((An : Int), v)] else []) ++
        (if (storedF code i).1 = 1 ∧ (An : Int) = (s : Int) then [((An : Int), (storedF code i).2.1)] else [])).foldl (fun m p => tellK code i m p.1.toNat p.2) m1) := by rw [hm1]; exact HQ
      have HK1 : Hid (KM w1 c m1) := hk1
      clear HSA hw1 hm1 hk1 HQ c0 c1 d0 d1 hne
      have CS1 := CS.out.gb hg1 (Nat.ne_of_gt hcl) hn1
      have CI1 := CI.out.gb hg1 (by omega) hn2
      have HL1 := HLX.out.gb hg1 hLc hLX
      have HR1 := row_gb HRX.out hg1 hgc hgXl
      have hz1 : w.heap.size + 2 ≤ w1.heap.size := by have := hg1.size; have := HSZ.out; omega
      have hgw1 : w.grownBy w1 (some c) := gb_trans hgX hg1
      clear CS CI HLX HRX HMX hg1 hgX hLX hgXl hn1 hn2 HSZ
      obtain ⟨c0, _⟩ := CS1 0 _ rfl
      have HCS : Hid (Cells w1 w.heap.size [.int .i64 (i : Int), .int .i64 (s : Int)]) := CS1
      have HCI : Hid (Cells w1 (w.heap.size + 1) [.int .i64 3, .int .i64 (An : Int), .int .i64 B]) := CI1
      have HLL : Hid (Cells w1 L (lrnC (.slice (some ⟨g, 0, none⟩) code.length cap) (ldB code code.length) a b c)) := HL1
      have HRR : Hid (Row w1 g 0 code) := HR1
      clear CS1 CI1 HL1 HR1
      go_wp2_with fail
      refine (storedAt_at g cap L a b c code hok i hi w1 HRR.out HLL.out).mono ?_
      rintro e w2 ⟨rfl, hb2⟩
      have hz2 : w1.heap.size ≤ w2.heap.size := hb2.size
      generalize storedF code i = st at *
      obtain ⟨so, sA, sB⟩ := st
      dsimp only at HQ1 HST'
      obtain ⟨Y, hY⟩ : ∃ Y, Y = w2.alloc (.cells #[.int .i64 so, .int .i64 sA, .int .i64 sB] 76) := ⟨_, rfl⟩
      have hbY : Below w1.heap.size w1 Y := by rw [hY]; exact hb2.alloc hb2.size _
      have y0 := HCS.out.on hbY
      have y1 := HCI.out.on hbY
      have y2 : Cells Y w2.heap.size [.int .i64 so, .int .i64 sA, .int .i64 sB] := by rw [hY]; exact Cells.new w2 _ rfl _ _
      have HLY : Hid (Cells Y L (lrnC (.slice (some ⟨g, 0, none⟩) code.length cap) (ldB code code.length) a b c)) := HLL.out.on hbY
      have HRY : Hid (Row Y g 0 code) := HRR.out.on hbY
      have HKY : Hid (KM Y c m1) := HK1.out.on hbY
      have hgY : w.grownBy Y (some c) := gb_trans hgw1 (gb_of hbY _)
      go_upto_region 7 with fail
      rw [← hY]
      clear hY hbY hb2 HCS HCI HLL HRR HK1 c0
      obtain ⟨c0, _⟩ := y0 0 _ rfl
      obtain ⟨c1, _⟩ := y0 1 _ rfl
      obtain ⟨d1, _⟩ := y1 1 _ rfl
      obtain ⟨e0, _⟩ := y2 0 _ rfl
      obtain ⟨e1, _⟩ := y2 1 _ rfl
      clear y0 y1 y2
      obtain ⟨hso, hsl, hsh⟩ := HST'.out
      clear HST'
      rcases hso with rfl | rfl
      · by_cases hAs : An = s
        · subst hAs
          have HF : Hid (passK code i An v m = tellK code i m1 An sA) := by show _ = _; rw [HQ1.out]; simp
          clear HQ1
          go_wp2_with fail
          refine (tell_at g cap L a b c _ code hok i hi An hA8 sA hsl hsh Y HRY.out HLY.out hLc m1 HKY.out).mono ?_
          rintro e w3 ⟨rfl, hk3, hg3⟩
          have HK : Hid (KM w3 c (passK code i An v m)) := by show KM _ _ _; rw [HF.out]; exact hk3
          clear hk3 HF
          go_wp2
          refine bodyPost_end (results_none rfl _ _ _) rfl ?_
          exact ⟨rfl, HK.out, gb_trans hgY hg3⟩
        · have HK : Hid (KM Y c (passK code i s v m)) := by
            show KM _ _ _
            rw [HQ1.out]
            have : ¬ (An : Int) = (s : Int) := by omega
            simp only [this, and_false, if_false]
            exact HKY.out
          have hbe : ((An : Int) == (s : Int)) = false := by simp; omega
          clear HQ1
          go_wp2
          refine bodyPost_end (results_none rfl _ _ _) rfl ?_
          exact ⟨rfl, HK.out, hgY⟩
      · by_cases hAs : sA = (s : Int)
        · subst hAs
          have HF : Hid (passK code i s v m = tellK code i m1 An v) := by show _ = _; rw [HQ1.out]; simp
          clear HQ1
          go_wp2_with fail
          refine (tell_at g cap L a b c _ code hok i hi An hA8 v h1 h2 Y HRY.out HLY.out hLc m1 HKY.out).mono ?_
          rintro e w3 ⟨rfl, hk3, hg3⟩
          have HK : Hid (KM w3 c (passK code i s v m)) := by show KM _ _ _; rw [HF.out]; exact hk3
          have hw2l : w2.heap.size < Y.heap.size := cell_lt e0
          have f0 := (World.cell?_of_block (a := ⟨w2.heap.size, 0, none⟩) (hg3.block w2.heap.size hw2l (by simp; omega))).trans e0
          clear hk3 HF
          go_wp2
          refine bodyPost_end (results_none rfl _ _ _) rfl ?_
          exact ⟨rfl, HK.out, gb_trans hgY hg3⟩
        · have HK : Hid (KM Y c (passK code i s v m)) := by
            show KM _ _ _
            rw [HQ1.out]
            simp only [hAs, and_false, if_false]
            exact HKY.out
          have hbe : (sA == (s : Int)) = false := by simp [hAs]
          clear HQ1
          go_wp2
          refine bodyPost_end (results_none rfl _ _ _) rfl ?_
          exact ⟨rfl, HK.out, hgY⟩
    · have hne : ((s : Int) != (An : Int)) = true := by simp; omega
      have hne2 : ¬ s = An := by omega
      go_wp2_with fail
      refine (tell_at g cap L a b c _ code hok i hi s hs v h1 h2 X HRX.out HLX.out hLc m HMX.out).mono ?_
      rintro e w1 ⟨rfl, hk1, hg1⟩
      have HQ1 : Hid (passK code i s v m = ((if (storedF code i).1 = 2 ∧ (storedF code i).2.1 = (s : Int) then [((An : Int), v)] else []) ++
        (if (storedF code i).1 = 1 ∧ (An : Int) = (s : Int) then [((An : Int), (storedF code i).2.1)] else [])).foldl (fun m p => tellK code i m p.1.toNat p.2) (tellK code i m s v)) := by
        show _ = _
        rw [HT3.out, if_pos hsA, List.append_assoc, List.foldl_append]
        rfl
      have HK1 : Hid (KM w1 c (tellK code i m s v)) := hk1
      generalize tellK code i m s v = m1 at *
      clear c0 c1 d0 d1 hne hsA hne2 HT3 hk1
      go_upto_region 6 with fail
      have CS1 := CS.out.gb hg1 (Nat.ne_of_gt hcl) hn1
      have CI1 := CI.out.gb hg1 (by omega) hn2
      have HL1 := HLX.out.gb hg1 hLc hLX
      have HR1 := row_gb HRX.out hg1 hgc hgXl
      have hz1 : w.heap.size + 2 ≤ w1.heap.size := by have := hg1.size; have := HSZ.out; omega
      have hgw1 : w.grownBy w1 (some c) := gb_trans hgX hg1
      clear CS CI HLX HRX HMX hg1 hgX hLX hgXl hn1 hn2 HSZ
      obtain ⟨c0, _⟩ := CS1 0 _ rfl
      have HCS : Hid (Cells w1 w.heap.size [.int .i64 (i : Int), .int .i64 (s : Int)]) := CS1
      have HCI : Hid (Cells w1 (w.heap.size + 1) [.int .i64 3, .int .i64 (An : Int), .int .i64 B]) := CI1
      have HLL : Hid (Cells w1 L (lrnC (.slice (some ⟨g, 0, none⟩) code.length cap) (ldB code code.length) a b c)) := HL1
      have HRR : Hid (Row w1 g 0 code) := HR1
      clear CS1 CI1 HL1 HR1
      go_wp2_with fail
      refine (storedAt_at g cap L a b c code hok i hi w1 HRR.out HLL.out).mono ?_
      rintro e w2 ⟨rfl, hb2⟩
      have hz2 : w1.heap.size ≤ w2.heap.size := hb2.size
      generalize storedF code i = st at *
      obtain ⟨so, sA, sB⟩ := st
      dsimp only at HQ1 HST'
      obtain ⟨Y, hY⟩ : ∃ Y, Y = w2.alloc (.cells #[.int .i64 so, .int .i64 sA, .int .i64 sB] 76) := ⟨_, rfl⟩
      have hbY : Below w1.heap.size w1 Y := by rw [hY]; exact hb2.alloc hb2.size _
      have y0 := HCS.out.on hbY
      have y1 := HCI.out.on hbY
      have y2 : Cells Y w2.heap.size [.int .i64 so, .int .i64 sA, .int .i64 sB] := by rw [hY]; exact Cells.new w2 _ rfl _ _
      have HLY : Hid (Cells Y L (lrnC (.slice (some ⟨g, 0, none⟩) code.length cap) (ldB code code.length) a b c)) := HLL.out.on hbY
      have HRY : Hid (Row Y g 0 code) := HRR.out.on hbY
      have HKY : Hid (KM Y c m1) := HK1.out.on hbY
      have hgY : w.grownBy Y (some c) := gb_trans hgw1 (gb_of hbY _)
      go_upto_region 7 with fail
      rw [← hY]
      clear hY hbY hb2 HCS HCI HLL HRR HK1 c0
      obtain ⟨c0, _⟩ := y0 0 _ rfl
      obtain ⟨c1, _⟩ := y0 1 _ rfl
      obtain ⟨d1, _⟩ := y1 1 _ rfl
      obtain ⟨e0, _⟩ := y2 0 _ rfl
      obtain ⟨e1, _⟩ := y2 1 _ rfl
      clear y0 y1 y2
      obtain ⟨hso, hsl, hsh⟩ := HST'.out
      clear HST'
      rcases hso with rfl | rfl
      · by_cases hAs : An = s
        · subst hAs
          have HF : Hid (passK code i An v m = tellK code i m1 An sA) := by show _ = _; rw [HQ1.out]; simp
          clear HQ1
          go_wp2_with fail
          refine (tell_at g cap L a b c _ code hok i hi An hA8 sA hsl hsh Y HRY.out HLY.out hLc m1 HKY.out).mono ?_
          rintro e w3 ⟨rfl, hk3, hg3⟩
          have HK : Hid (KM w3 c (passK code i An v m)) := by show KM _ _ _; rw [HF.out]; exact hk3
          clear hk3 HF
          go_wp2
          refine bodyPost_end (results_none rfl _ _ _) rfl ?_
          exact ⟨rfl, HK.out, gb_trans hgY hg3⟩
        · have HK : Hid (KM Y c (passK code i s v m)) := by
            show KM _ _ _
            rw [HQ1.out]
            have : ¬ (An : Int) = (s : Int) := by omega
            simp only [this, and_false, if_false]
            exact HKY.out
          have hbe : ((An : Int) == (s : Int)) = false := by simp; omega
          clear HQ1
          go_wp2
          refine bodyPost_end (results_none rfl _ _ _) rfl ?_
          exact ⟨rfl, HK.out, hgY⟩
      · by_cases hAs : sA = (s : Int)
        · subst hAs
          have HF : Hid (passK code i s v m = tellK code i m1 An v) := by show _ = _; rw [HQ1.out]; simp
          clear HQ1
          go_wp2_with fail
          refine (tell_at g cap L a b c _ code hok i hi An hA8 v h1 h2 Y HRY.out HLY.out hLc m1 HKY.out).mono ?_
          rintro e w3 ⟨rfl, hk3, hg3⟩
          have HK : Hid (KM w3 c (passK code i s v m)) := by show KM _ _ _; rw [HF.out]; exact hk3
          have hw2l : w2.heap.size < Y.heap.size := cell_lt e0
          have f0 := (World.cell?_of_block (a := ⟨w2.heap.size, 0, none⟩) (hg3.block w2.heap.size hw2l (by simp; omega))).trans e0
          clear hk3 HF
          go_wp2
          refine bodyPost_end (results_none rfl _ _ _) rfl ?_
          exact ⟨rfl, HK.out, gb_trans hgY hg3⟩
        · have HK : Hid (KM Y c (passK code i s v m)) := by
            show KM _ _ _
            rw [HQ1.out]
            simp only [hAs, and_false, if_false]
            exact HKY.out
          have hbe : (sA == (s : Int)) = false := by simp [hAs]
          clear HQ1
          go_wp2
          refine bodyPost_end (results_none rfl _ _ _) rfl ?_
          exact ⟨rfl, HK.out, hgY⟩
  · have HQ : Hid (passK code i s v m = tellK code i m s v) := by show _ = _; rw [HP.out, HT.out]; simp [h3]
    have h3' : (op != 3) = true := by simp [h3]
    obtain ⟨c0, _⟩ := CS.out 0 _ rfl
    obtain ⟨c1, _⟩ := CS.out 1 _ rfl
    obtain ⟨d0, _⟩ := CI.out 0 _ rfl
    clear HT HP HSI h3
    go_wp2_with fail
    refine (tell_at g cap L a b c _ code hok i hi s hs v h1 h2 X HRX.out HLX.out hLc m HMX.out).mono ?_
    rintro e w1 ⟨rfl, hk1, hg1⟩
    have HK : Hid (KM w1 c (passK code i s v m)) := by show KM _ _ _; rw [HQ.out]; exact hk1
    go_wp2
    refine bodyPost_ret (results_none rfl _ _ _) rfl ?_
    exact ⟨rfl, HK.out, gb_trans hgX hg1⟩
end Pg
end Go.Proofs.Ytffkkhaiedhaiaa

/- What may come next, as a list of its own. -/
namespace Go.Proofs.Ytffkkhaiedhaiaa
namespace Pg
open Go.ChangeShapes Go.WideShapes Go.ChangeAt Go.RowKit St

/-- A list of numbers that lies at B or behind it. -/
def LstB (B : Nat) (w : World) (v : Value) (l : List Int) : Prop := ∃ g c, v = .slice (some ⟨g, 0, none⟩) l.length c ∧ l.length ≤ c ∧ B ≤ g ∧ g < w.heap.size ∧ IRow w g 0 l
theorem lstB_of {B B' : Nat} {w : World} {v : Value} {l : List Int} (h : Grow B' w v l) (hB : B ≤ B') : LstB B w v l := by
  obtain ⟨g, c, hv, hc, hg, hr⟩ := h.lst
  obtain ⟨g', c', hv', h1, _⟩ := h.gint
  rw [hv] at hv'
  injection hv' with hv'
  injection hv' with hv'
  injection hv' with hv'
  subst hv'
  exact ⟨g, c, hv, hc, Nat.le_trans hB h1, hg, hr⟩
set_option maxRecDepth 100000 in
set_option maxHeartbeats 2000000 in
theorem l1PutB (B0 : Nat) (l : List Int) (v : Value) (n : Int) (hl : l.length ≤ 1000) (w : World) (hB0 : B0 ≤ w.heap.size) (h : LstB B0 w v l) :
    Calls Try.prog 76 #[v, .int .i64 n] w fun e w' => ∃ v', e = .returned v' ∧ LstB B0 w' v' (putL l n) ∧ Below w.heap.size w w' := by
  obtain ⟨i0, hif, hz0, hz1, hz2⟩ := info_parts infoN
  obtain ⟨g, cap, rfl, hcap, hgB, hgw, hir⟩ := h
  have HR : Hid (IRow w g 0 l) := hir
  clear hir
  go_enter Try.func76, Try.ntmps76
  go_wp2
  go_loopw [5] (fun i wr => ∃ k : Nat, k ≤ l.length ∧ i = .int .i64 (k : Int) ∧ Hid (∀ x ∈ l.take k, x < n) ∧ wr = w) (fun i _ => l.length - (intOf i).toNat)
  case atStart => exact ⟨0, Nat.zero_le _, rfl, fun x hx => by simp at hx, rfl⟩
  case round =>
    obtain ⟨k, hk, rfl, hlo, rfl⟩ := hrel
    have HAT : Hid ((∀ x, l[k]? = some x → x = n → putL l n = l) ∧ ((∀ x, l[k]? = some x → n < x) → putL l n = l.take k ++ n :: l.drop k)) := putL_at hlo.out hk
    have tail : ∀ (hne : ∀ x, l[k]? = some x → n < x), Hid (putL l n = (l.take k ++ [n]) ++ l.drop k) := fun hne => by show _ = _; rw [HAT.out.2 hne]; simp
    by_cases hlt : k < l.length
    · have c0 := HR.out k _ (List.getElem?_eq_getElem hlt)
      have X0 : Hid (l[k]? = some l[k]) := List.getElem?_eq_getElem hlt
      have HT : Hid (l[k] < n → ∀ x ∈ l.take (k + 1), x < n) := fun h x hx => by
        rw [List.take_succ_eq_append_getElem hlt] at hx
        rcases List.mem_append.1 hx with hx | hx
        · exact hlo.out x hx
        · simp at hx; subst hx; exact h
      generalize l[k] = y at *
      rw [Nat.zero_add] at c0
      have hki : (k : Int) < (l.length : Int) := by omega
      by_cases hy : y < n
      · have HL : Hid (∀ x ∈ l.take (k + 1), x < n) := HT.out hy
        clear HT hlo HAT tail X0
        go_wp2
        go_roundw
        case rel => exact ⟨k + 1, by omega, by go_num, HL.out, by simp⟩
        case measure => simp [intOf]; omega
      · by_cases hyn : y = n
        · subst hyn
          have HE : Hid (putL l y = l) := HAT.out.1 y X0.out rfl
          clear HT hlo HAT tail X0
          go_wp2
          go_ret
          exact ⟨_, rfl, by rw [HE.out]; exact ⟨g, cap, rfl, hcap, hgB, hgw, HR.out⟩, Below.refl _ _⟩
        · have HE := tail (fun x hx => by rw [X0.out] at hx; injection hx with hx; omega)
          have hyb : (y == n) = false := by simpa using hyn
          clear HT hlo HAT tail X0
          have hkl : (k : Int) ≤ (l.length : Int) := by omega
          have hk0 : (0 : Int) ≤ (k : Int) := by omega
          have hkc : (k : Int) ≤ (cap : Int) := by omega
          have HLT : Hid ((l.take k).length = k) := by show _ = _; rw [List.length_take]; omega
          have HLD : Hid ((l.drop k).length = l.length - k) := by show _ = _; rw [List.length_drop]
          have hO1 : (wr.alloc (.cells #[] 2)).ownsRow wr.heap.size 2 1 (.slice (some ⟨wr.heap.size, 0, none⟩) 0 0) 0 [] := World.ownsRow_made wr #[] 0 (Nat.le_refl _) (by decide) (by simp)
          have HO1 : Hid ((wr.alloc (.cells #[] 2)).ownsRow wr.heap.size 2 1 (.slice (some ⟨wr.heap.size, 0, none⟩) 0 0) 0 []) := hO1
          clear hO1
          go_wp2_with (at_builtin; refine wpList_append_own _ rfl _ _ 27 rfl wr.heap.size 2 i0 (.int .i64 0) 1 8 Try.underlying27 hif hz0 hz1 hz2 rfl (by decide) _ _ _ rfl HO1.out ⟨g, k, none⟩ (l.length - k) (cap - k) (nums (l.drop k)) rfl (by simp [nums]) (irow_nums (irow_drop (HR.out.on ((Below.refl _ _).alloc (Nat.le_refl _) _)))) (nums_one _) (by unfold maxLen; omega) (by omega) (by simp) ?_)
          intro v1 w1 hown1 hgrow1 hnil1
          have hb1 : Below wr.heap.size wr w1 := ((Below.refl _ _).alloc (Nat.le_refl _) _).grown hgrow1 (by simp) (fun q hq => by simp [Value.ownBlock] at hq; omega)
          have hBw1 : B0 ≤ w1.heap.size := Nat.le_trans hB0 hb1.size
          have HG1 : Hid (Grow wr.heap.size w1 v1 (l.drop k)) := grow_app (a := []) hown1 (by simp) (fun h => by first | exact hnil1 h | exact absurd (hnil1.1 h).1 (by simp))
          clear hown1 hgrow1 hnil1 HO1
          obtain ⟨g1, c1, rfl⟩ := HG1.out.form
          have HI1 : Hid (IRow w1 g1 0 (l.drop k)) := by
            obtain ⟨_, _, hv, _, _, hi, _⟩ := HG1.out.gint
            injection hv with e1 e2 e3
            injection e1 with e1
            injection e1 with e1
            subst e1
            exact hi
          rw [HLD.out]
          have HR1 : Hid (IRow w1 g 0 l) := HR.out.on hb1
          have hO2 : (w1.alloc (.cells #[] 2)).ownsRow w1.heap.size 2 1 (.slice (some ⟨w1.heap.size, 0, none⟩) 0 0) 0 [] := World.ownsRow_made w1 #[] 0 (Nat.le_refl _) (by decide) (by simp)
          have HO2 : Hid ((w1.alloc (.cells #[] 2)).ownsRow w1.heap.size 2 1 (.slice (some ⟨w1.heap.size, 0, none⟩) 0 0) 0 []) := hO2
          clear hO2
          go_wp2_with (at_builtin; refine wpList_append_own _ rfl _ _ 27 rfl w1.heap.size 2 i0 (.int .i64 0) 1 8 Try.underlying27 hif hz0 hz1 hz2 rfl (by decide) _ _ _ rfl HO2.out ⟨g, 0, none⟩ k cap (nums (l.take k)) rfl (by simp [nums]; omega) (irow_nums (irow_take (HR1.out.on ((Below.refl _ _).alloc (Nat.le_refl _) _)))) (nums_one _) (by unfold maxLen; omega) (by omega) (by simp) ?_)
          intro v2 w2 hown2 hgrow2 hnil2
          have hb2 : Below w1.heap.size w1 w2 := ((Below.refl _ _).alloc (Nat.le_refl _) _).grown hgrow2 (by simp) (fun q hq => by simp [Value.ownBlock] at hq; omega)
          have HG2 : Hid (Grow w1.heap.size w2 v2 (l.take k)) := grow_app (a := []) hown2 (by simp; omega) (fun h => by first | exact hnil2 h | exact absurd (hnil2.1 h).1 (by simp))
          clear hown2 hgrow2 hnil2 HO2
          obtain ⟨g2, c2, rfl⟩ := HG2.out.form
          rw [HLT.out]
          have HX2 : Hid (w2.ownsRow w1.heap.size 2 1 (.slice (some ⟨g2, 0, none⟩) k c2) k (nums (l.take k))) := by have h := HG2.out.1; rw [HLT.out] at h; exact h
          have hz2' : w1.heap.size ≤ w2.heap.size := hb2.size
          go_wp2_with (at_builtin; refine wpList_append_own _ rfl _ _ 27 rfl w1.heap.size 2 i0 (.int .i64 0) 1 8 Try.underlying27 hif hz0 hz1 hz2 rfl (by decide) _ _ _ rfl (HX2.out.alloc _) ⟨w2.heap.size, 0, none⟩ 1 1 [.int .i64 n] rfl rfl (cell_one_new _ _ _) (by simp [Value.oneCell']) (by unfold maxLen; omega) (by omega) (by simp; omega) ?_)
          intro v3 w3 hown3 hgrow3 hnil3
          have hb3 : Below w1.heap.size w1 w3 := (hb2.alloc hb2.size _).grown hgrow3 (by simp; omega) (fun q hq => by simp [Value.ownBlock] at hq; subst hq; exact (HX2.out.lt g2 rfl).1)
          have HG3 : Hid (Grow w1.heap.size w3 v3 (l.take k ++ [n])) := grow_app (b := [n]) hown3 (by rw [List.length_append, HLT.out]; rfl) (fun h => by first | exact hnil3 h | exact absurd (hnil3.1 h).1 (by simp))
          clear hown3 hgrow3 hnil3 HG2 hb2 HX2
          obtain ⟨g3, c3, rfl⟩ := HG3.out.form
          have HL3 : Hid ((l.take k ++ [n]).length = k + 1) := by show _ = _; rw [List.length_append, HLT.out]; rfl
          rw [HL3.out]
          have HX3 : Hid (w3.ownsRow w1.heap.size 2 1 (.slice (some ⟨g3, 0, none⟩) (k + 1) c3) (k + 1) (nums (l.take k ++ [n]))) := by have h := HG3.out.1; rw [HL3.out] at h; exact h
          have hz3 : w1.heap.size ≤ w3.heap.size := hb3.size
          have HI3 : Hid (IRow w3 g1 0 (l.drop k)) := HI1.out.on hb3
          go_wp2_with (at_builtin; refine wpList_append_own _ rfl _ _ 27 rfl w1.heap.size 2 i0 (.int .i64 0) 1 8 Try.underlying27 hif hz0 hz1 hz2 rfl (by decide) _ _ _ rfl HX3.out ⟨g1, 0, none⟩ (l.length - k) c1 (nums (l.drop k)) rfl (by simp [nums]) (irow_nums HI3.out) (nums_one _) (by unfold maxLen; omega) (by omega) hz3 ?_)
          intro v4 w4 hown4 hgrow4 hnil4
          have hb4 : Below w1.heap.size w1 w4 := hb3.grown hgrow4 hz3 (fun q hq => by simp [Value.ownBlock] at hq; subst hq; exact (HX3.out.lt g3 rfl).1)
          have HG4 : Hid (Grow w1.heap.size w4 v4 ((l.take k ++ [n]) ++ l.drop k)) := grow_app hown4 (by rw [List.length_append, HLD.out, HL3.out]) (fun h => by first | exact hnil4 h | exact absurd (hnil4.1 h).1 (by simp))
          have HB4 : Hid (Below wr.heap.size wr w4) := below_over hb1 hb4
          clear hown4 hgrow4 hnil4 hb4 hb3 hb1
          go_wp2
          go_ret
          exact ⟨_, rfl, by rw [HE.out]; exact lstB_of HG4.out (by first | exact hBw1 | exact hB0), HB4.out⟩
    · have HE := tail (fun x hx => by have := (List.getElem?_eq_some_iff.1 hx).1; omega)
      have hke : k = l.length := by omega
      subst hke
      rw [List.take_length, List.drop_length, List.append_nil] at HE
      clear hlo HAT tail
      have hkc : (l.length : Int) ≤ (cap : Int) := by omega
      rcases Nat.eq_or_lt_of_le hcap with hcc | hcc
      · subst hcc
        have HO1 : Hid ((wr.alloc (.cells #[] 2)).ownsRow wr.heap.size 2 1 (.slice (some ⟨wr.heap.size, 0, none⟩) 0 0) 0 []) := World.ownsRow_made wr #[] 0 (Nat.le_refl _) (by decide) (by simp)
        go_wp2_with (at_builtin; refine wpList_append_own _ rfl _ _ 27 rfl wr.heap.size 2 i0 (.int .i64 0) 1 8 Try.underlying27 hif hz0 hz1 hz2 rfl (by decide) _ _ _ rfl HO1.out _ 0 _ [] rfl rfl (by intro j u h; simp at h) (by simp) (by unfold maxLen; omega) (by omega) (by simp) ?_)
        intro v1 w1 hown1 hgrow1 hnil1
        have hb1 : Below wr.heap.size wr w1 := ((Below.refl _ _).alloc (Nat.le_refl _) _).grown hgrow1 (by simp) (fun q hq => by simp [Value.ownBlock] at hq; omega)
        have hBw1 : B0 ≤ w1.heap.size := Nat.le_trans hB0 hb1.size
        have HG1 : Hid (Grow wr.heap.size w1 v1 []) := grow_app (a := []) (b := []) hown1 (by simp) (fun h => by first | exact hnil1 h | exact absurd (hnil1.1 h).1 (by simp))
        clear hown1 hgrow1 hnil1 HO1
        obtain ⟨g1, c1, rfl⟩ := HG1.out.form
        rw [List.length_nil]
        have HR1 : Hid (IRow w1 g 0 l) := HR.out.on hb1
        have HO2 : Hid ((w1.alloc (.cells #[] 2)).ownsRow w1.heap.size 2 1 (.slice (some ⟨w1.heap.size, 0, none⟩) 0 0) 0 []) := World.ownsRow_made w1 #[] 0 (Nat.le_refl _) (by decide) (by simp)
        go_wp2_with (at_builtin; refine wpList_append_own _ rfl _ _ 27 rfl w1.heap.size 2 i0 (.int .i64 0) 1 8 Try.underlying27 hif hz0 hz1 hz2 rfl (by decide) _ _ _ rfl HO2.out ⟨g, 0, none⟩ l.length _ (nums l) rfl (by simp [nums]) (irow_nums (HR1.out.on ((Below.refl _ _).alloc (Nat.le_refl _) _))) (nums_one _) (by unfold maxLen; omega) (by omega) (by simp) ?_)
        intro v2 w2 hown2 hgrow2 hnil2
        have hb2 : Below w1.heap.size w1 w2 := ((Below.refl _ _).alloc (Nat.le_refl _) _).grown hgrow2 (by simp) (fun q hq => by simp [Value.ownBlock] at hq; omega)
        have HG2 : Hid (Grow w1.heap.size w2 v2 l) := grow_app (a := []) hown2 (by simp) (fun h => by first | exact hnil2 h | exact absurd (hnil2.1 h).1 (by simp))
        clear hown2 hgrow2 hnil2 HO2
        obtain ⟨g2, c2, rfl⟩ := HG2.out.form
        have hz2' : w1.heap.size ≤ w2.heap.size := hb2.size
        go_wp2_with (at_builtin; refine wpList_append_own _ rfl _ _ 27 rfl w1.heap.size 2 i0 (.int .i64 0) 1 8 Try.underlying27 hif hz0 hz1 hz2 rfl (by decide) _ _ _ rfl (HG2.out.1.alloc _) ⟨w2.heap.size, 0, none⟩ 1 1 [.int .i64 n] rfl rfl (cell_one_new _ _ _) (by simp [Value.oneCell']) (by unfold maxLen; omega) (by omega) (by simp; omega) ?_)
        intro v3 w3 hown3 hgrow3 hnil3
        have hb3 : Below w1.heap.size w1 w3 := (hb2.alloc hb2.size _).grown hgrow3 (by simp; omega) (fun q hq => by simp [Value.ownBlock] at hq; subst hq; exact (HG2.out.1.lt g2 rfl).1)
        have HG3 : Hid (Grow w1.heap.size w3 v3 (l ++ [n])) := grow_next hown3 (fun h => by first | exact hnil3 h | exact absurd (hnil3.1 h).1 (by simp))
        clear hown3 hgrow3 hnil3 HG2 hb2
        obtain ⟨g3, c3, rfl⟩ := HG3.out.form
        have HL3 : Hid ((l ++ [n]).length = l.length + 1) := by show _ = _; rw [List.length_append]; rfl
        rw [HL3.out]
        have HX3 : Hid (w3.ownsRow w1.heap.size 2 1 (.slice (some ⟨g3, 0, none⟩) (l.length + 1) c3) (l.length + 1) (nums (l ++ [n]))) := by have h := HG3.out.1; rw [HL3.out] at h; exact h
        have hz3 : w1.heap.size ≤ w3.heap.size := hb3.size
        go_wp2_with (at_builtin; refine wpList_append_own _ rfl _ _ 27 rfl w1.heap.size 2 i0 (.int .i64 0) 1 8 Try.underlying27 hif hz0 hz1 hz2 rfl (by decide) _ _ _ rfl HX3.out ⟨g1, 0, none⟩ 0 c1 [] rfl rfl (by intro j u h; simp at h) (by simp) (by unfold maxLen; omega) (by omega) hz3 ?_)
        intro v4 w4 hown4 hgrow4 hnil4
        have hb4 : Below w1.heap.size w1 w4 := hb3.grown hgrow4 hz3 (fun q hq => by simp [Value.ownBlock] at hq; subst hq; exact (HX3.out.lt g3 rfl).1)
        have HG4 : Hid (Grow w1.heap.size w4 v4 (l ++ [n])) := ⟨by rw [HL3.out]; exact hown4, fun h => by first | exact hnil4 h | exact absurd (hnil4.1 h).1 (by simp)⟩
        have HB4 : Hid (Below wr.heap.size wr w4) := below_over hb1 hb4
        clear hown4 hgrow4 hnil4 hb4 hb3 hb1
        go_wp2
        go_ret
        exact ⟨_, rfl, by rw [HE.out]; exact lstB_of HG4.out (by first | exact hBw1 | exact hB0), HB4.out⟩
      · have hcc1 : ¬ (cap - l.length = 0) := by omega
        have hcc2 : (l.length : Int) < (cap : Int) := by omega
        have hcc3 : cap ≠ l.length := by omega
        have HO1 : Hid ((wr.alloc (.cells #[] 2)).ownsRow wr.heap.size 2 1 (.slice (some ⟨wr.heap.size, 0, none⟩) 0 0) 0 []) := World.ownsRow_made wr #[] 0 (Nat.le_refl _) (by decide) (by simp)
        go_wp2_with (at_builtin; refine wpList_append_own _ rfl _ _ 27 rfl wr.heap.size 2 i0 (.int .i64 0) 1 8 Try.underlying27 hif hz0 hz1 hz2 rfl (by decide) _ _ _ rfl HO1.out _ 0 _ [] rfl rfl (by intro j u h; simp at h) (by simp) (by unfold maxLen; omega) (by omega) (by simp) ?_)
        intro v1 w1 hown1 hgrow1 hnil1
        have hb1 : Below wr.heap.size wr w1 := ((Below.refl _ _).alloc (Nat.le_refl _) _).grown hgrow1 (by simp) (fun q hq => by simp [Value.ownBlock] at hq; omega)
        have hBw1 : B0 ≤ w1.heap.size := Nat.le_trans hB0 hb1.size
        have HG1 : Hid (Grow wr.heap.size w1 v1 []) := grow_app (a := []) (b := []) hown1 (by simp) (fun h => by first | exact hnil1 h | exact absurd (hnil1.1 h).1 (by simp))
        clear hown1 hgrow1 hnil1 HO1
        obtain ⟨g1, c1, rfl⟩ := HG1.out.form
        rw [List.length_nil]
        have HR1 : Hid (IRow w1 g 0 l) := HR.out.on hb1
        have HO2 : Hid ((w1.alloc (.cells #[] 2)).ownsRow w1.heap.size 2 1 (.slice (some ⟨w1.heap.size, 0, none⟩) 0 0) 0 []) := World.ownsRow_made w1 #[] 0 (Nat.le_refl _) (by decide) (by simp)
        go_wp2_with (at_builtin; refine wpList_append_own _ rfl _ _ 27 rfl w1.heap.size 2 i0 (.int .i64 0) 1 8 Try.underlying27 hif hz0 hz1 hz2 rfl (by decide) _ _ _ rfl HO2.out ⟨g, 0, none⟩ l.length _ (nums l) rfl (by simp [nums]) (irow_nums (HR1.out.on ((Below.refl _ _).alloc (Nat.le_refl _) _))) (nums_one _) (by unfold maxLen; omega) (by omega) (by simp) ?_)
        intro v2 w2 hown2 hgrow2 hnil2
        have hb2 : Below w1.heap.size w1 w2 := ((Below.refl _ _).alloc (Nat.le_refl _) _).grown hgrow2 (by simp) (fun q hq => by simp [Value.ownBlock] at hq; omega)
        have HG2 : Hid (Grow w1.heap.size w2 v2 l) := grow_app (a := []) hown2 (by simp) (fun h => by first | exact hnil2 h | exact absurd (hnil2.1 h).1 (by simp))
        clear hown2 hgrow2 hnil2 HO2
        obtain ⟨g2, c2, rfl⟩ := HG2.out.form
        have hz2' : w1.heap.size ≤ w2.heap.size := hb2.size
        go_wp2_with (at_builtin; refine wpList_append_own _ rfl _ _ 27 rfl w1.heap.size 2 i0 (.int .i64 0) 1 8 Try.underlying27 hif hz0 hz1 hz2 rfl (by decide) _ _ _ rfl (HG2.out.1.alloc _) ⟨w2.heap.size, 0, none⟩ 1 1 [.int .i64 n] rfl rfl (cell_one_new _ _ _) (by simp [Value.oneCell']) (by unfold maxLen; omega) (by omega) (by simp; omega) ?_)
        intro v3 w3 hown3 hgrow3 hnil3
        have hb3 : Below w1.heap.size w1 w3 := (hb2.alloc hb2.size _).grown hgrow3 (by simp; omega) (fun q hq => by simp [Value.ownBlock] at hq; subst hq; exact (HG2.out.1.lt g2 rfl).1)
        have HG3 : Hid (Grow w1.heap.size w3 v3 (l ++ [n])) := grow_next hown3 (fun h => by first | exact hnil3 h | exact absurd (hnil3.1 h).1 (by simp))
        clear hown3 hgrow3 hnil3 HG2 hb2
        obtain ⟨g3, c3, rfl⟩ := HG3.out.form
        have HL3 : Hid ((l ++ [n]).length = l.length + 1) := by show _ = _; rw [List.length_append]; rfl
        rw [HL3.out]
        have HX3 : Hid (w3.ownsRow w1.heap.size 2 1 (.slice (some ⟨g3, 0, none⟩) (l.length + 1) c3) (l.length + 1) (nums (l ++ [n]))) := by have h := HG3.out.1; rw [HL3.out] at h; exact h
        have hz3 : w1.heap.size ≤ w3.heap.size := hb3.size
        go_wp2_with (at_builtin; refine wpList_append_own _ rfl _ _ 27 rfl w1.heap.size 2 i0 (.int .i64 0) 1 8 Try.underlying27 hif hz0 hz1 hz2 rfl (by decide) _ _ _ rfl HX3.out ⟨g1, 0, none⟩ 0 c1 [] rfl rfl (by intro j u h; simp at h) (by simp) (by unfold maxLen; omega) (by omega) hz3 ?_)
        intro v4 w4 hown4 hgrow4 hnil4
        have hb4 : Below w1.heap.size w1 w4 := hb3.grown hgrow4 hz3 (fun q hq => by simp [Value.ownBlock] at hq; subst hq; exact (HX3.out.lt g3 rfl).1)
        have HG4 : Hid (Grow w1.heap.size w4 v4 (l ++ [n])) := ⟨by rw [HL3.out]; exact hown4, fun h => by first | exact hnil4 h | exact absurd (hnil4.1 h).1 (by simp)⟩
        have HB4 : Hid (Below wr.heap.size wr w4) := below_over hb1 hb4
        clear hown4 hgrow4 hnil4 hb4 hb3 hb1
        go_wp2
        go_ret
        exact ⟨_, rfl, by rw [HE.out]; exact lstB_of HG4.out (by first | exact hBw1 | exact hB0), HB4.out⟩
set_option maxRecDepth 100000 in
set_option maxHeartbeats 2000000 in
theorem l9NextsB (g yc : Nat) (code : List Tx.Ins) (hl : code.length ≤ 1000) (k : Nat) (hk : k < code.length) (w : World) (hrow : Row w g 0 code) :
    Calls Try.prog 46 #[.slice (some ⟨g, 0, none⟩) code.length yc, .int .i64 k] w fun e w' => ∃ v, e = .returned v ∧ LstB w.heap.size w' v (nextsF code k) ∧ Below w.heap.size w w' := by
  have hx : code[k]? = some (insF code k) := by unfold insF; rw [List.getD_eq_getElem?_getD, List.getElem?_eq_getElem hk]; rfl
  obtain ⟨d0, d1, d2⟩ := hrow k _ hx
  simp only [Nat.zero_add] at d0 d1 d2
  have hki : (k : Int) < (code.length : Int) := by omega
  rw [nexts_is]
  generalize insF code k = ins at *
  obtain ⟨op, A, b⟩ := ins
  dsimp only at d0 d1 d2 ⊢
  have hw2 : Below w.heap.size w ((w.alloc (.cells #[.int .i64 op, .int .i64 A, .int .i64 b] 76)).alloc (.cells #[] 2)) := ((Below.refl _ _).alloc (Nat.le_refl _) _).alloc (by simp) _
  have CI2 : Hid (Cells ((w.alloc (.cells #[.int .i64 op, .int .i64 A, .int .i64 b] 76)).alloc (.cells #[] 2)) w.heap.size [.int .i64 op, .int .i64 A, .int .i64 b]) := (Cells.new w _ rfl _ _).alloc _
  have CI3 : Hid (Cells (((w.alloc (.cells #[.int .i64 op, .int .i64 A, .int .i64 b] 76)).alloc (.cells #[] 2)).alloc (.cells #[.int .i64 ((k : Int) + 1)] 2)) w.heap.size [.int .i64 op, .int .i64 A, .int .i64 b]) := ((Cells.new w _ rfl _ _).alloc _).alloc _
  have hge : Grow (w.heap.size + 1) ((w.alloc (.cells #[.int .i64 op, .int .i64 A, .int .i64 b] 76)).alloc (.cells #[] 2)) (.slice (some ⟨w.heap.size + 1, 0, none⟩) 0 0) [] := by
    have h := grow_empty (w.alloc (.cells #[.int .i64 op, .int .i64 A, .int .i64 b] 76)) (B := w.heap.size + 1) (by simp)
    simpa using h
  have HGL : Hid (Grow (w.heap.size + 1) (((w.alloc (.cells #[.int .i64 op, .int .i64 A, .int .i64 b] 76)).alloc (.cells #[] 2)).alloc (.cells #[.int .i64 ((k : Int) + 1)] 2)) (.slice (some ⟨w.heap.size + 1, 0, none⟩) 0 0) []) := growOn hge (allocBelow _ _)
  have HL0 : Hid (LstB w.heap.size ((w.alloc (.cells #[.int .i64 op, .int .i64 A, .int .i64 b] 76)).alloc (.cells #[] 2)) (.slice (some ⟨w.heap.size + 1, 0, none⟩) 0 0) []) := lstB_of hge (Nat.le_succ _)
  have HSI : Hid (SI true (w.heap.size + 1) (((w.alloc (.cells #[.int .i64 op, .int .i64 A, .int .i64 b] 76)).alloc (.cells #[] 2)).alloc (.cells #[.int .i64 ((k : Int) + 1)] 2)) (.slice (some ⟨w.heap.size + 1 + 1, 0, none⟩) 1 1) [(k : Int) + 1]) := by
    have h := SI.weak (grow_lit1 ((w.alloc (.cells #[.int .i64 op, .int .i64 A, .int .i64 b] 76)).alloc (.cells #[] 2)) ((k : Int) + 1)).gint.si (B' := w.heap.size + 1) (by simp)
    show SI _ _ _ _ _
    simpa using h
  clear hx hrow hge
  by_cases h11 : op = 11
  · subst h11
    have HV : Hid (nextsL 11 A k code.length = putL [] A) := by show _ = _; simp [nextsL]
    rw [HV.out]
    have hjb : Lay.jumpB 11 = true := by simp [Lay.jumpB]
    go_enter Try.func46, Try.ntmps46
    obtain ⟨i0, _⟩ := CI2.out.g0
    obtain ⟨i1, _⟩ := CI2.out.g1
    go_wp2_with fail
    refine (St.l3Jump 11 ((w.alloc (.cells #[.int .i64 11, .int .i64 A, .int .i64 b] 76)).alloc (.cells #[] 2))).mono ?_
    rw [hjb]
    rintro e _ ⟨rfl, rfl⟩
    go_wp2_with fail
    refine (l1PutB w.heap.size ([] : List Int) (.slice (some ⟨w.heap.size + 1, 0, none⟩) 0 0) A (by simp) ((w.alloc (.cells #[.int .i64 11, .int .i64 A, .int .i64 b] 76)).alloc (.cells #[] 2)) (by simp; omega) HL0.out).mono ?_
    rintro e w3 ⟨v', rfl, hls, hb3⟩
    have hw3 : Below w.heap.size w w3 := below_over hw2 hb3
    clear hb3
    go_wp2
    go_ret
    exact ⟨_, rfl, hls, hw3⟩
  · have hn11 : (op != 11) = true := by simp [h11]
    by_cases h20 : op = 20
    · subst h20
      clear hn11
      have HV : Hid (nextsL 20 A k code.length = []) := by show _ = _; simp [nextsL]
      rw [HV.out]
      have hjb : Lay.jumpB 20 = false := by simp [Lay.jumpB]
      go_enter Try.func46, Try.ntmps46
      obtain ⟨i0, _⟩ := CI2.out.g0
      obtain ⟨i1, _⟩ := CI2.out.g1
      go_wp2_with fail
      refine (St.l3Jump 20 ((w.alloc (.cells #[.int .i64 20, .int .i64 A, .int .i64 b] 76)).alloc (.cells #[] 2))).mono ?_
      rw [hjb]
      rintro e _ ⟨rfl, rfl⟩
      go_wp2
      go_ret
      exact ⟨_, rfl, HL0.out, hw2⟩
    · have hn20 : (op != 20) = true := by simp [h20]
      by_cases hlt : k + 1 < code.length
      · have hli : (k : Int) + 1 < (code.length : Int) := by omega
        have hld : decide ((k : Int) + 1 < (code.length : Int)) = true := by simp; omega
        by_cases h12 : op = 12
        · subst h12
          clear hn11 hn20
          have HV : Hid (nextsL 12 A k code.length = putL [(k : Int) + 1] A) := by show _ = _; simp [nextsL, hlt]
          rw [HV.out]
          have hjb : Lay.jumpB 12 = true := by simp [Lay.jumpB]
          go_enter Try.func46, Try.ntmps46
          go_wp2_with (at_builtin; refine wpList_grow rfl _ _ rfl (w.heap.size + 1) _ _ rfl HGL.out (by simp) _ _ _ [(k : Int) + 1] rfl HSI.out (by simp) ?_)
          intro v1 w1 hg1 hk1
          have hw1 : Below w.heap.size w w1 := ((((Below.refl _ _).alloc (Nat.le_refl _) _).alloc (by simp) _).alloc (by simp; omega) _).trans (hk1.below.mono (Nat.le_succ _))
          have CI1 : Cells w1 w.heap.size [.int .i64 12, .int .i64 A, .int .i64 b] := CI3.out.low hk1.below (Nat.lt_succ_self _)
          have HGW : Hid (Grow (w.heap.size + 1) w1 v1 [(k : Int) + 1]) := hg1
          obtain ⟨i0, _⟩ := CI1.g0
          obtain ⟨i1, _⟩ := CI1.g1
          clear hg1 hk1
          go_wp2_with fail
          refine (St.l3Jump 12 w1).mono ?_
          rw [hjb]
          rintro e _ ⟨rfl, rfl⟩
          go_wp2_with fail
          refine (l1PutB w.heap.size [(k : Int) + 1] v1 A (by simp) w1 hw1.size (lstB_of HGW.out (by first | exact Nat.le_refl _ | omega))).mono ?_
          rintro e w3 ⟨v', rfl, hls, hb3⟩
          have hw3 : Below w.heap.size w w3 := below_over hw1 hb3
          clear hb3
          go_wp2
          go_ret
          exact ⟨_, rfl, hls, hw3⟩
        · have HV : Hid (nextsL op A k code.length = [(k : Int) + 1]) := by show _ = _; simp [nextsL, h11, h20, h12, hlt]
          rw [HV.out]
          have hjb : Lay.jumpB op = false := by simp [Lay.jumpB, h11, h12]
          go_enter Try.func46, Try.ntmps46
          go_wp2_with (at_builtin; refine wpList_grow rfl _ _ rfl (w.heap.size + 1) _ _ rfl HGL.out (by simp) _ _ _ [(k : Int) + 1] rfl HSI.out (by simp) ?_)
          intro v1 w1 hg1 hk1
          have hw1 : Below w.heap.size w w1 := ((((Below.refl _ _).alloc (Nat.le_refl _) _).alloc (by simp) _).alloc (by simp; omega) _).trans (hk1.below.mono (Nat.le_succ _))
          have CI1 : Cells w1 w.heap.size [.int .i64 op, .int .i64 A, .int .i64 b] := CI3.out.low hk1.below (Nat.lt_succ_self _)
          have HGW : Hid (Grow (w.heap.size + 1) w1 v1 [(k : Int) + 1]) := hg1
          obtain ⟨i0, _⟩ := CI1.g0
          obtain ⟨i1, _⟩ := CI1.g1
          clear hg1 hk1
          go_wp2_with fail
          refine (St.l3Jump op w1).mono ?_
          rw [hjb]
          rintro e _ ⟨rfl, rfl⟩
          go_wp2
          go_ret
          exact ⟨_, rfl, lstB_of HGW.out (by first | exact Nat.le_refl _ | omega), hw1⟩
      · have hli : ¬ (k : Int) + 1 < (code.length : Int) := by omega
        have hld : decide ((k : Int) + 1 < (code.length : Int)) = false := by simp; omega
        by_cases h12 : op = 12
        · subst h12
          clear hn11 hn20
          have HV : Hid (nextsL 12 A k code.length = putL [] A) := by show _ = _; simp [nextsL, hlt]
          rw [HV.out]
          have hjb : Lay.jumpB 12 = true := by simp [Lay.jumpB]
          go_enter Try.func46, Try.ntmps46
          obtain ⟨i0, _⟩ := CI2.out.g0
          obtain ⟨i1, _⟩ := CI2.out.g1
          go_wp2_with fail
          refine (St.l3Jump 12 ((w.alloc (.cells #[.int .i64 12, .int .i64 A, .int .i64 b] 76)).alloc (.cells #[] 2))).mono ?_
          rw [hjb]
          rintro e _ ⟨rfl, rfl⟩
          go_wp2_with fail
          refine (l1PutB w.heap.size ([] : List Int) (.slice (some ⟨w.heap.size + 1, 0, none⟩) 0 0) A (by simp) ((w.alloc (.cells #[.int .i64 12, .int .i64 A, .int .i64 b] 76)).alloc (.cells #[] 2)) (by simp; omega) HL0.out).mono ?_
          rintro e w3 ⟨v', rfl, hls, hb3⟩
          have hw3 : Below w.heap.size w w3 := below_over hw2 hb3
          clear hb3
          go_wp2
          go_ret
          exact ⟨_, rfl, hls, hw3⟩
        · have HV : Hid (nextsL op A k code.length = []) := by show _ = _; simp [nextsL, h11, h12, hlt]
          rw [HV.out]
          have hjb : Lay.jumpB op = false := by simp [Lay.jumpB, h11, h12]
          go_enter Try.func46, Try.ntmps46
          obtain ⟨i0, _⟩ := CI2.out.g0
          obtain ⟨i1, _⟩ := CI2.out.g1
          go_wp2_with fail
          refine (St.l3Jump op ((w.alloc (.cells #[.int .i64 op, .int .i64 A, .int .i64 b] 76)).alloc (.cells #[] 2))).mono ?_
          rw [hjb]
          rintro e _ ⟨rfl, rfl⟩
          go_wp2
          go_ret
          exact ⟨_, rfl, HL0.out, hw2⟩
end Pg
end Go.Proofs.Ytffkkhaiedhaiaa

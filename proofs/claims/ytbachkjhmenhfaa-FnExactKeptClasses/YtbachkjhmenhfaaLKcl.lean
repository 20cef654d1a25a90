/- The walk of the law FnExactKeptClasses. -/
import Derived.Test.YtbachkjhmenhfaaLb8
import Derived.Deep.RegionWith
namespace Go.Proofs.Ytbachkjhmenhfaa
namespace Pg
open Go.ChangeShapes Go.WideShapes Go.ChangeAt Go.RowKit St

theorem kept_len (l1 l2 l rules : List ByteArray) (h : labsB l1 l2 = true → l.length ≤ 20) : (keptA l1 l2 l rules).length ≤ 20 := by
  unfold keptA
  split
  · rename_i hq
    rw [Bool.and_eq_true] at hq
    have := keptN_len l rules l.length
    unfold keptL
    have := h hq.1
    omega
  · simp
set_option maxRecDepth 100000 in
set_option maxHeartbeats 4000000 in
theorem kclLaw (a1 a2 a4 : Option Addr) (c1 c2 c4 : Nat) (l1 l2 rules : List ByteArray) (s1 : SaneT l1) (s2 : SaneT l2) (s4 : SaneT rules) (w : World) (k1 : ST 0 w (.slice a1 l1.length c1) l1) (k2 : ST 0 w (.slice a2 l2.length c2) l2) (k4 : ST 0 w (.slice a4 rules.length c4) rules) :
    Calls Try.prog 7 #[.agg #[.slice a1 l1.length c1, .slice a2 l2.length c2], .slice a4 rules.length c4] w fun e w' => e = .returned (.bool true) ∧ Below w.heap.size w w' := by
  have K1 : Hid (ST 0 w (.slice a1 l1.length c1) l1) := k1
  have K2 : Hid (ST 0 w (.slice a2 l2.length c2) l2) := k2
  have K4 : Hid (ST 0 w (.slice a4 rules.length c4) rules) := k4
  have S1 : Hid (SaneT l1) := s1
  have S2 : Hid (SaneT l2) := s2
  have S4 : Hid (SaneT rules) := s4
  clear k1 k2 k4 s1 s2 s4
  obtain ⟨W, hW⟩ : ∃ W, W = w.alloc (.cells #[.slice a1 l1.length c1, .slice a2 l2.length c2] 38) := ⟨_, rfl⟩
  have hwW : Below w.heap.size w W := by rw [hW]; exact (Below.refl _ _).alloc (Nat.le_refl _) _
  have L0 : Hid (Cells W w.heap.size [.slice a1 l1.length c1, .slice a2 l2.length c2]) := by show Cells _ _ _; rw [hW]; exact Cells.new w _ rfl _ _
  by_cases hsz : ((bulkT l1 + bulkT l2 : Nat) : Int) ≤ 1048576
  · have HSZ : Hid (szR (bulkT l1 + bulkT l2) 1048576 = 1048576 - ((bulkT l1 + bulkT l2 : Nat) : Int)) := szR_yes hsz
    have hq : ¬ 1048576 - ((bulkT l1 + bulkT l2 : Nat) : Int) < 0 := by omega
    have HL : Hid (l1.length ≤ 1048576 ∧ l2.length ≤ 1048576) := ⟨by unfold bulkT at hsz; omega, by unfold bulkT at hsz; omega⟩
    have hz0 : (0 : Int) ≤ ((bulkT l1 + bulkT l2 : Nat) : Int) := by omega
    have HLL : Hid (l1.length + l2.length ≤ 1048576) := by unfold bulkT at hsz; show _ ≤ _; omega
    generalize ((bulkT l1 + bulkT l2 : Nat) : Int) = z at *
    by_cases hsz2 : (bulkT rules : Int) ≤ 1048576 - z
    · have HSZ2 : Hid (szR (bulkT rules) (1048576 - z) = 1048576 - z - (bulkT rules : Int)) := szR_yes hsz2
      have hq2 : ¬ 1048576 - z - (bulkT rules : Int) < 0 := by omega
      have HL4 : Hid (rules.length ≤ 1048576) := by unfold bulkT at hsz2; show _ ≤ _; omega
      generalize (bulkT rules : Int) = z2 at *
      obtain ⟨P, hP, HSF, HIF⟩ : ∃ P : List Int, P.length ≤ 20 ∧
          Hid (∀ b1 b2 b4 d1 d2 d4 w, ST 0 w (.slice b1 l1.length d1) l1 → ST 0 w (.slice b2 l2.length d2) l2 → ST 0 w (.slice b4 rules.length d4) rules → Calls Try.prog 18 #[.agg #[.slice b1 l1.length d1, .slice b2 l2.length d2], .slice b4 rules.length d4] w fun e w' => ∃ v, e = .returned v ∧ Lst w' v P ∧ Below w.heap.size w w') ∧
          Hid (∀ b1 b2 b4 d1 d2 d4 w, l1.length ≤ d1 → l2.length ≤ d2 → ST 0 w (.slice b1 l1.length d1) l1 → ST 0 w (.slice b2 l2.length d2) l2 → ST 0 w (.slice b4 rules.length d4) rules → Calls Try.prog 15 #[.agg #[.slice b1 l1.length d1, .slice b2 l2.length d2], .slice b4 rules.length d4] w fun e w' => ∃ v, e = .returned v ∧ Grow w.heap.size w' v P ∧ Below w.heap.size w w') :=
        ⟨_, kept_len l1 l2 l1 rules (fun h => (labs_len h).1), fun b1 b2 b4 d1 d2 d4 w h1 h2 h4 => specKeptClasses b1 b2 b4 d1 d2 d4 l1 l2 rules HL.out.1 HL.out.2 HL4.out w h1 h2 h4, fun b1 b2 b4 d1 d2 d4 w e1 e2 h1 h2 h4 => implKeptClasses b1 b2 b4 d1 d2 d4 l1 l2 rules HL.out.1 HL.out.2 e1 e2 HL4.out w h1 h2 h4⟩
      go_enter Try.func7, Try.ntmps7
      go_wp2_with fail
      rw [← hW]
      clear hW
      refine (szLabs a1 a2 c1 c2 l1 l2 S1.out S2.out _ (by omega) (by omega) _ (K1.out.on (Keep.of hwW)) (K2.out.on (Keep.of hwW))).mono ?_
      rw [HSZ.out]
      rintro e w1 ⟨rfl, hb1⟩
      have hw1 : Below w.heap.size w w1 := below_over hwW hb1
      have hW1 : Below W.heap.size W w1 := hb1
      clear hb1 HSZ
      go_wp2_with fail
      refine (szStrs a4 c4 rules S4.out _ (by omega) (by omega) _ (K4.out.on (Keep.of hw1))).mono ?_
      rw [HSZ2.out]
      rintro e w1' ⟨rfl, rfl⟩
      obtain ⟨i1, _⟩ := (L0.out.on hW1).g0
      obtain ⟨j1, _⟩ := (L0.out.on hW1).g1
      clear HSZ2
      go_wp2_with fail
      refine (toLabs a1 a2 c1 c2 l1 l2 HL.out.1 HL.out.2 _ (K1.out.on (Keep.of hw1)) (K2.out.on (Keep.of hw1))).mono ?_
      rintro e w2 ⟨g1, g2, rfl, t1, t2, _, _, hb2⟩
      have hw2 : Below w.heap.size w w2 := below_over hw1 hb2
      have hW2 : Below W.heap.size W w2 := below_over hW1 hb2
      have T1 : Hid (TR w2 g1 l1) := t1
      have T2 : Hid (TR w2 g2 l2) := t2
      clear hb2 t1 t2 i1 j1
      go_wp2_with fail
      refine (toStrs a4 c4 rules HL4.out _ (K4.out.on (Keep.of hw2))).mono ?_
      rintro e w3 ⟨rfl, t4, hb3⟩
      have hw3 : Below w.heap.size w w3 := below_over hw2 hb3
      have hW3 : Below W.heap.size W w3 := below_over hW2 hb3
      have T5 : Hid (TR w3 g1 l1) := T1.out.on hb3
      have T6 : Hid (TR w3 g2 l2) := T2.out.on hb3
      have T7 : Hid (TR w3 w2.heap.size rules) := t4
      clear hb3 t4 T1 T2
      generalize w2.heap.size = g4 at *
      go_wp2_with fail
      refine (HSF.out _ _ _ _ _ _ _ T5.out.st T6.out.st T7.out.st).mono ?_
      rintro e w4 ⟨v, rfl, hv, hb4⟩
      obtain ⟨gs, cs, rfl, _, hgs', hsr⟩ := hv
      have hw4 : Below w.heap.size w w4 := below_over hw3 hb4
      have hW4 : Below W.heap.size W w4 := below_over hW3 hb4
      have HS4 : Hid (IRow w4 gs 0 P) := hsr
      obtain ⟨i4, _⟩ := (L0.out.on hW4).g0
      obtain ⟨j4, _⟩ := (L0.out.on hW4).g1
      clear hb4 hsr T5 T6 T7 hw2 hW2 hw3 hW3
      go_wp2_with fail
      refine (toLabs a1 a2 c1 c2 l1 l2 HL.out.1 HL.out.2 _ (K1.out.on (Keep.of hw4)) (K2.out.on (Keep.of hw4))).mono ?_
      rintro e w5 ⟨g1, g2, rfl, t1, t2, hg1, hg12, hb5⟩
      have hg2 : g2 < w5.heap.size := t2.1
      have hw5 : Below w.heap.size w w5 := below_over hw4 hb5
      have hW5 : Below W.heap.size W w5 := below_over hW4 hb5
      obtain ⟨W6, hW6⟩ : ∃ W6, W6 = w5.alloc (.cells #[.slice (some ⟨g1, 0, none⟩) l1.length l1.length, .slice (some ⟨g2, 0, none⟩) l2.length l2.length] 29) := ⟨_, rfl⟩
      have hb6 : Below w5.heap.size w5 W6 := by rw [hW6]; exact (Below.refl _ _).alloc (Nat.le_refl _) _
      have X6 : Hid (Cells W6 w5.heap.size [.slice (some ⟨g1, 0, none⟩) l1.length l1.length, .slice (some ⟨g2, 0, none⟩) l2.length l2.length]) := by show Cells _ _ _; rw [hW6]; exact Cells.new w5 _ rfl _ _
      have hz6 : W6.heap.size = w5.heap.size + 1 := by rw [hW6]; simp
      have T1 : Hid (TR W6 g1 l1) := t1.on hb6
      have T2 : Hid (TR W6 g2 l2) := t2.on hb6
      have hw6 : Below w.heap.size w W6 := below_over hw5 hb6
      have hWW6 : Below W.heap.size W W6 := below_over hW5 hb6
      have HS6 : Hid (IRow W6 gs 0 P) := (HS4.out.on hb5).on hb6
      have hz45 : w4.heap.size ≤ w5.heap.size := hb5.size
      clear hb5 t1 t2 i4 j4 hb6 HS4
      go_wp2_with fail
      rw [← hW6]
      clear hW6
      refine (toStrs a4 c4 rules HL4.out _ (K4.out.on (Keep.of hw6))).mono ?_
      rintro e w7 ⟨rfl, t4, hb7⟩
      have hw7 : Below w.heap.size w w7 := below_over hw6 hb7
      have hW7 : Below W.heap.size W w7 := below_over hWW6 hb7
      have X7 : Hid (Cells w7 w5.heap.size [.slice (some ⟨g1, 0, none⟩) l1.length l1.length, .slice (some ⟨g2, 0, none⟩) l2.length l2.length]) := X6.out.on hb7
      have T3 : Hid (TR w7 g1 l1) := T1.out.on hb7
      have T4 : Hid (TR w7 g2 l2) := T2.out.on hb7
      have T5 : Hid (TR w7 W6.heap.size rules) := t4
      have HS7 : Hid (IRow w7 gs 0 P) := HS6.out.on hb7
      have hz67 : W6.heap.size < w7.heap.size := t4.1
      obtain ⟨x7, _⟩ := X7.out.g0
      obtain ⟨y7, _⟩ := X7.out.g1
      clear hb7 t4 T1 T2 X6 HS6 hw6 hWW6
      rw [hz6] at T5 hz67 ⊢
      clear hz6
      generalize w5.heap.size = q at *
      go_wp2_with fail
      refine (HIF.out _ _ _ _ _ _ _ (Nat.le_refl _) (Nat.le_refl _) T3.out.st T4.out.st T5.out.st).mono ?_
      rintro e w8 ⟨v8, rfl, hg8, hb8⟩
      obtain ⟨gi, ci, rfl, hgi, hgi', hir, him⟩ := hg8.gint
      have hw8 : Below w.heap.size w w8 := below_over hw7 hb8
      have hW8 : Below W.heap.size W w8 := below_over hW7 hb8
      have X8 : Hid (Cells w8 q [.slice (some ⟨g1, 0, none⟩) l1.length l1.length, .slice (some ⟨g2, 0, none⟩) l2.length l2.length]) := X7.out.on hb8
      have U1 : Hid (TR w8 g1 l1) := T3.out.on hb8
      have U2 : Hid (TR w8 g2 l2) := T4.out.on hb8
      have U4 : Hid (TR w8 (q + 1) rules) := T5.out.on hb8
      have HI8 : Hid (IRow w8 gi 0 P) := hir
      have HM8 : Hid (Room w8 gi P.length) := him
      have HS8 : Hid (IRow w8 gs 0 P) := HS7.out.on hb8
      clear hb8 hir him hg8 T3 T4 T5 X7 HS7 x7 y7 hw7 hW7
      go_wp2_with fail
      refine (eqInts gi gs ci cs P (by omega) _ HI8.out HS8.out).mono ?_
      rintro e w9 ⟨rfl, hb9⟩
      have hw9 : Below w.heap.size w w9 := below_over hw8 hb9
      have hW9 : Below W.heap.size W w9 := below_over hW8 hb9
      have X9 : Hid (Cells w9 q [.slice (some ⟨g1, 0, none⟩) l1.length l1.length, .slice (some ⟨g2, 0, none⟩) l2.length l2.length]) := X8.out.on hb9
      have V1 : Hid (TR w9 g1 l1) := U1.out.on hb9
      have V2 : Hid (TR w9 g2 l2) := U2.out.on hb9
      have V4 : Hid (TR w9 (q + 1) rules) := U4.out.on hb9
      have HI9 : Hid (IRow w9 gi 0 P) := HI8.out.on hb9
      have HM9 : Hid (Room w9 gi P.length) := HM8.out.on hb9
      have HS9 : Hid (IRow w9 gs 0 P) := HS8.out.on hb9
      obtain ⟨c9, _⟩ := (L0.out.on hW9).g0
      obtain ⟨d9, _⟩ := (L0.out.on hW9).g1
      obtain ⟨x9, _⟩ := X9.out.g0
      obtain ⟨y9, _⟩ := X9.out.g1
      have lx : q < w9.heap.size := cell_lt x9
      clear hb9 U1 U2 U4 X8 HI8 HM8 HS8 hw8 hW8
      go_wp2_with fail
      go_region_with (first
        | (go_at_call 25; refine (toLabs a1 a2 c1 c2 l1 l2 HL.out.1 HL.out.2 _ ?hx ?hy).mono ?_; (case hx => exact K1.out.on (Keep.of hw9.drew)); (case hy => exact K2.out.on (Keep.of hw9.drew)); rintro e wA ⟨h1, h2, rfl, t1, t2, _, _, hbA⟩; have xA := (hbA.cell (p := ⟨q, 0, none⟩) lx).trans x9; have yA := (hbA.cell (p := ⟨q, 1, none⟩) lx).trans y9)
        | (go_at_call 26; have q3 := TR.st (cap := l1.length) (V1.out.on (below_over (Below.refl _ _).drew hbA)); have q4 := TR.st (cap := l2.length) (V2.out.on (below_over (Below.refl _ _).drew hbA)); refine (eqLabs _ _ _ _ _ _ _ _ l1 l2 HL.out.1 HL.out.2 _ q3 q4 t1.st t2.st).mono ?_; rintro e wB ⟨rfl, hbB⟩))
      all_goals
        have hb9B : Below w9.heap.size w9 wB := below_over (below_over (Below.refl _ _).drew hbA) hbB
        have hwB : Below w.heap.size w wB := below_over hw9 hb9B
        have hWB : Below W.heap.size W wB := below_over hW9 hb9B
        have XB : Hid (Cells wB q [.slice (some ⟨g1, 0, none⟩) l1.length l1.length, .slice (some ⟨g2, 0, none⟩) l2.length l2.length]) := X9.out.on hb9B
        have Y1 : Hid (TR wB g1 l1) := V1.out.on hb9B
        have Y2 : Hid (TR wB g2 l2) := V2.out.on hb9B
        have Y4 : Hid (TR wB (q + 1) rules) := V4.out.on hb9B
        have HIB : Hid (IRow wB gi 0 P) := HI9.out.on hb9B
        have HMB : Hid (Room wB gi P.length) := HM9.out.on hb9B
        have HSB : Hid (IRow wB gs 0 P) := HS9.out.on hb9B
        clear hbA hbB t1 t2 x9 y9 c9 d9 q3 q4 xA yA hb9B V1 V2 V4 X9 HI9 HM9 HS9 hw9 hW9 lx
        go_wp2_with fail
        refine (toStrs a4 c4 rules HL4.out _ (K4.out.on (Keep.of hwB))).mono ?_
        rintro e wC ⟨rfl, t4, hbC⟩
        have YC : Hid (TR wC (q + 1) rules) := Y4.out.on hbC
        have t5 : Hid (TR wC wB.heap.size rules) := t4
        have hwC : Below w.heap.size w wC := below_over hwB hbC
        have hWC : Below W.heap.size W wC := below_over hWB hbC
        have XC : Hid (Cells wC q [.slice (some ⟨g1, 0, none⟩) l1.length l1.length, .slice (some ⟨g2, 0, none⟩) l2.length l2.length]) := XB.out.on hbC
        have Z1 : Hid (TR wC g1 l1) := Y1.out.on hbC
        have Z2 : Hid (TR wC g2 l2) := Y2.out.on hbC
        have HIC : Hid (IRow wC gi 0 P) := HIB.out.on hbC
        have HMC : Hid (Room wC gi P.length) := HMB.out.on hbC
        have HSC : Hid (IRow wC gs 0 P) := HSB.out.on hbC
        clear hbC t4 Y4 XB Y1 Y2 HIB HMB HSB hwB hWB
        generalize wB.heap.size = qb at *
        go_wp2_with fail
        refine (eqStrs _ _ _ _ rules HL4.out _ (TR.st (cap := rules.length) YC.out) (TR.st (cap := rules.length) t5.out)).mono ?_
        rintro e wD ⟨rfl, hbD⟩
        have hwD : Below w.heap.size w wD := below_over hwC hbD
        have hWD : Below W.heap.size W wD := below_over hWC hbD
        have XD : Hid (Cells wD q [.slice (some ⟨g1, 0, none⟩) l1.length l1.length, .slice (some ⟨g2, 0, none⟩) l2.length l2.length]) := XC.out.on hbD
        have R1 : Hid (TR wD g1 l1) := Z1.out.on hbD
        have R2 : Hid (TR wD g2 l2) := Z2.out.on hbD
        have R4 : Hid (TR wD (q + 1) rules) := YC.out.on hbD
        have HID : Hid (IRow wD gi 0 P) := HIC.out.on hbD
        have HMD : Hid (Room wD gi P.length) := HMC.out.on hbD
        have HSD : Hid (IRow wD gs 0 P) := HSC.out.on hbD
        obtain ⟨xD, _⟩ := XD.out.g0
        obtain ⟨yD, _⟩ := XD.out.g1
        clear hbD YC t5 XC Z1 Z2 HIC HMC HSC hwC hWC
        go_wp2_with fail
        refine (markLabs w4.heap.size q g1 g2 l1.length l2.length l1.length l2.length 1 hg1 hg12 hg2 HL.out.1 HL.out.2 (by omega) _ _ _ R1.out R2.out).mono ?_
        rintro e wE ⟨rfl, hmE⟩
        have hzD : w.heap.size ≤ w4.heap.size := hw4.size
        have hzW : W.heap.size ≤ w4.heap.size := hW4.size
        have hwE : Below w.heap.size w wE := hwD.trans (hmE.below hzD hwD.size)
        have hWE : Below W.heap.size W wE := hWD.trans (hmE.below hzW hWD.size)
        have R5 : Hid (TR wE (q + 1) rules) := hmE.vr (.inr (by omega)) R4.out
        have HIE : Hid (IRow wE gi 0 P) := hmE.irow (.inr (by omega)) HID.out
        have HME : Hid (Room wE gi P.length) := hmE.room (.inr (by omega)) HMD.out
        have HSE : Hid (IRow wE gs 0 P) := hmE.irow (.inl hgs') HSD.out
        have hcn : 1 + l1.length + l2.length ≤ 3000000 := by have := HLL.out; omega
        clear hmE XD R1 R2 R4 HID HMD HSD xD yD hwD hWD
        generalize 1 + l1.length + l2.length = cn at *
        go_wp2_with fail
        refine (markStrs (q + 1) _ rules.length cn HL4.out hcn _ _ R5.out).mono ?_
        rintro e wF ⟨rfl, hmF⟩
        have hq1 : W.heap.size ≤ q + 1 := by omega
        have hq3 : w.heap.size ≤ q + 1 := by omega
        have hwF : Below w.heap.size w wF := hwE.trans (hmF.below hq3 hwE.size)
        have hWF : Below W.heap.size W wF := hWE.trans (hmF.below hq1 hWE.size)
        have HIF' : Hid (IRow wF gi 0 P) := hmF.irow (by omega) HIE.out
        have HMF : Hid (Room wF gi P.length) := hmF.room (by omega) HME.out
        have HSF' : Hid (IRow wF gs 0 P) := hmF.irow (by omega) HSE.out
        clear hmF R5 HIE HME HSE hwE hWE
        generalize cn + rules.length = ct at *
        have hneg : ¬ ((ct : Int) < 0) := by omega
        go_wp2_with fail
        refine (eqInts gi gs ci cs P (by omega) _ HIF'.out HSF'.out).mono ?_
        rintro e wG ⟨rfl, hbG⟩
        have hwG : Below w.heap.size w wG := below_over hwF hbG
        have hWG : Below W.heap.size W wG := below_over hWF hbG
        have HMG : Hid (Room wG gi P.length) := HMF.out.on hbG
        have HSG : Hid (IRow wG gs 0 P) := HSF'.out.on hbG
        clear hbG HIF' HMF HSF' hwF hWF
        have n6 : gs ≠ gi := by omega
        have mi : w.heap.size ≤ gi := by omega
        have miW : W.heap.size ≤ gi := by omega
        go_wp2_with fail
        refine (imark_at gi ci 1 P.length (by omega) (by omega) wG HMG.out).mono ?_
        rintro e wH ⟨rfl, hiF, _, hoF⟩
        have hwH : Below w.heap.size w wH := hwG.trans (hoF.below mi)
        have hWH : Below W.heap.size W wH := hWG.trans (hoF.below miW)
        have HKH : Hid (IRow wH gi 0 (imarks 1 P.length)) := hiF
        have HSH : Hid (IRow wH gs 0 P) := hoF.irow n6 HSG.out
        obtain ⟨cH, _⟩ := (L0.out.on hWH).g0
        obtain ⟨dH, _⟩ := (L0.out.on hWH).g1
        clear hiF hoF HMG HSG hwG hWG
        go_wp2_with fail
        refine (iheld_at gi ci 1 P.length (by omega) (by omega) wH HKH.out).mono ?_
        rintro e wH' ⟨rfl, rfl⟩
        have hq0 : ¬ (((1 : Nat) : Int) + (P.length : Int) < 0) := by omega
        go_wp2_with fail
        refine (toLabs a1 a2 c1 c2 l1 l2 HL.out.1 HL.out.2 _ (K1.out.on (Keep.of hwH)) (K2.out.on (Keep.of hwH))).mono ?_
        rintro e wI ⟨e1, e2, rfl, t1, t2, _, _, hbI⟩
        have hwI : Below w.heap.size w wI := below_over hwH hbI
        have TI1 : Hid (TR wI e1 l1) := t1
        have TI2 : Hid (TR wI e2 l2) := t2
        have HKI : Hid (IRow wI gi 0 (imarks 1 P.length)) := HKH.out.on hbI
        have HSI : Hid (IRow wI gs 0 P) := HSH.out.on hbI
        clear hbI t1 t2 HKH HSH cH dH hwH
        go_wp2_with fail
        refine (toStrs a4 c4 rules HL4.out _ (K4.out.on (Keep.of hwI))).mono ?_
        rintro e wJ ⟨rfl, t4, hbJ⟩
        have hwJ : Below w.heap.size w wJ := below_over hwI hbJ
        have TJ1 : Hid (TR wJ e1 l1) := TI1.out.on hbJ
        have TJ2 : Hid (TR wJ e2 l2) := TI2.out.on hbJ
        have TJ4 : Hid (TR wJ wI.heap.size rules) := t4
        have HKJ : Hid (IRow wJ gi 0 (imarks 1 P.length)) := HKI.out.on hbJ
        have HSJ : Hid (IRow wJ gs 0 P) := HSI.out.on hbJ
        clear hbJ t4 TI1 TI2 HKI HSI hwI
        generalize wI.heap.size = qi at *
        go_wp2_with fail
        refine (HIF.out _ _ _ _ _ _ _ (Nat.le_refl _) (Nat.le_refl _) TJ1.out.st TJ2.out.st TJ4.out.st).mono ?_
        rintro e wK ⟨vK, rfl, hgK, hbK⟩
        obtain ⟨gh, ch, rfl, _, _, hirh, _⟩ := hgK.gint
        have hwK : Below w.heap.size w wK := below_over hwJ hbK
        have HHK : Hid (IRow wK gh 0 P) := hirh
        have HKK : Hid (IRow wK gi 0 (imarks 1 P.length)) := HKJ.out.on hbK
        have HSK : Hid (IRow wK gs 0 P) := HSJ.out.on hbK
        clear hirh hbK hgK TJ1 TJ2 TJ4 HKJ HSJ hwJ
        go_wp2_with fail
        refine (eqInts gh gs ch cs P (by omega) _ HHK.out HSK.out).mono ?_
        rintro e wL ⟨rfl, hbL⟩
        have hwL : Below w.heap.size w wL := below_over hwK hbL
        have HKL : Hid (IRow wL gi 0 (imarks 1 P.length)) := HKK.out.on hbL
        clear hbL HKK HSK HHK hwK
        go_wp2_with fail
        refine (iheld_at gi ci 1 P.length (by omega) (by omega) wL HKL.out).mono ?_
        rintro e wL' ⟨rfl, rfl⟩
        go_wp2
        go_ret
        exact ⟨rfl, hwL⟩
    · have HSZ2 : Hid (szR (bulkT rules) (1048576 - z) = -1) := szR_no (Int.not_le.1 hsz2)
      go_enter Try.func7, Try.ntmps7
      go_wp2_with fail
      rw [← hW]
      clear hW
      refine (szLabs a1 a2 c1 c2 l1 l2 S1.out S2.out _ (by omega) (by omega) _ (K1.out.on (Keep.of hwW)) (K2.out.on (Keep.of hwW))).mono ?_
      rw [HSZ.out]
      rintro e w1 ⟨rfl, hb1⟩
      have hw1 : Below w.heap.size w w1 := below_over hwW hb1
      clear hb1
      go_wp2_with fail
      refine (szStrs a4 c4 rules S4.out _ (by omega) (by omega) _ (K4.out.on (Keep.of hw1))).mono ?_
      rw [HSZ2.out]
      rintro e w1' ⟨rfl, rfl⟩
      go_wp2
      go_ret
      exact ⟨rfl, hw1⟩
  · have HSZ : Hid (szR (bulkT l1 + bulkT l2) 1048576 = -1) := szR_no (Int.not_le.1 hsz)
    go_enter Try.func7, Try.ntmps7
    go_wp2_with fail
    rw [← hW]
    clear hW
    refine (szLabs a1 a2 c1 c2 l1 l2 S1.out S2.out _ (by omega) (by omega) _ (K1.out.on (Keep.of hwW)) (K2.out.on (Keep.of hwW))).mono ?_
    rw [HSZ.out]
    rintro e w1 ⟨rfl, hb1⟩
    have hw1 : Below w.heap.size w w1 := below_over hwW hb1
    clear hb1
    go_wp2
    go_ret
    exact ⟨rfl, hw1⟩
end Pg
end Go.Proofs.Ytbachkjhmenhfaa

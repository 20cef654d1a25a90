/- Contracts: a round of the learner. -/
import Derived.Test.YthabenjodhjgiaaKm5
namespace Go.Proofs.Ythabenjodhjgiaa
namespace Pg
open Go.ChangeShapes Go.WideShapes Go.ChangeAt Go.RowKit St Wd

theorem gbB {B : Nat} {u v w : World} {b : Nat} (h : Below B u v) (k : v.grownBy w (some b)) (hb : B ≤ b) (hs : B ≤ v.heap.size) : Below B u w :=
  ⟨k.os.trans h.os, k.tape.trans h.tape, k.output.trans h.output, Nat.le_trans h.size k.size, fun j hj => (k.block j (by omega) (by simp; omega)).trans (h.block j hj)⟩
theorem plainV (v : Value) (y : DataW Unit × List MemPlace) (h : plainElem Try.prog 2 v = some y) : ∃ c : Int, v = .int .i64 c := by
  obtain ⟨c, hc, _⟩ := plainElem_int_inv Try.underlying2 h
  exact ⟨c, hc⟩
theorem resK_take (C : Kw) (hC : in40 C) (left : Lit → Bool) {i s : Nat} (hi : i < 40) (hs : s < 8) : (fun a b => if a = i ∧ b = s then none else resK C (fun i s => left (spK i s)) a b) = resK C fun a b => left (spK a b) && !(spK (a : Int) b).sameKey (spK i s) := by
  funext a b
  unfold resK
  by_cases e : a = i ∧ b = s
  · obtain ⟨rfl, rfl⟩ := e
    have : (spK (a : Int) b).sameKey (spK a b) = true := WideAt.sameKey_self (spK_key (by omega) (by omega))
    simp [this]
  · rw [if_neg e]
    cases hc : C a b with
    | none => simp
    | some v =>
      obtain ⟨ha, hb⟩ := hC a b (by rw [hc]; simp)
      have : (spK (a : Int) b).sameKey (spK i s) = false := Maps.sameKey_ne (fun h => e (spK_inj (by omega) (by omega) (by omega) (by omega) h))
      simp [this]
theorem setK_same {K : Kw} {i s : Nat} {y : Int} (h : K i s = some y) : setK K i s y = K := by
  funext a b
  unfold setK
  split
  · rename_i e; rw [e.1, e.2, h]
  · rfl
theorem KM.setC {w : World} {b : Nat} {m : Kw} (h : KM w b m) {ad : Addr} (hne : b ≠ ad.block) (v : Value) : KM (w.setCell ad v) b m := by
  obtain ⟨D, h1, h2⟩ := h
  exact ⟨D, h1.setCell hne v, h2⟩
theorem lrnC_swap (v : Value) (P : Nat → Bool) (a b c : Nat) : ((lrnC v P a b c).set 42 (.map (some c))).set 43 (.map (some b)) = lrnC v P a c b := by
  unfold lrnC
  rw [List.set_cons_succ, List.set_append, if_neg (by rw [chi_len]; omega), chi_len, List.set_cons_succ, List.set_append, if_neg (by rw [chi_len]; omega), chi_len]
  rfl
theorem KM.drew {w : World} {b : Nat} {m : Kw} (h : KM w b m) : KM w.drew b m := h
set_option maxRecDepth 100000 in
set_option maxHeartbeats 4000000 in
theorem goOn_at (g cap L : Nat) (a b c : Nat) (code : List Tx.Ins) (hok : Lay.codeOk code = true) (B : Nat) (w : World) (hrow : Row w g 0 code) (hgB : g < B) (hB : B ≤ L ∧ B ≤ a ∧ B ≤ b ∧ B ≤ c) (hne : L ≠ a ∧ L ≠ b ∧ L ≠ c ∧ a ≠ b ∧ a ≠ c ∧ b ≠ c)
    (hL : Cells w L (lrnC (.slice (some ⟨g, 0, none⟩) code.length cap) (ldB code code.length) a b c)) (K C : Kw) (ha : KM w a K) (hb : KM w b C) (hc : KM w c noneK) (hlrn : Lrn code K C noneK) :
    Calls Try.prog 62 #[.pointer (some ⟨L, 0, none⟩)] w fun e w' => e = .returned (.tuple #[]) ∧ ∃ K' M, Cells w' L (lrnC (.slice (some ⟨g, 0, none⟩) code.length cap) (ldB code code.length) a c b) ∧
      KM w' a K' ∧ KM w' c M ∧ KM w' b noneK ∧ Lrn code K' M noneK ∧ (∀ i s, leO (K i s) (K' i s)) ∧ (hgK code.length K < hgK code.length K' ∨ M = noneK) ∧ Below B w w' := by
  obtain ⟨n1, n2, n3, n4, n5, n6⟩ := hne
  obtain ⟨B1, B2, B3, B4⟩ := hB
  have hLl : L < w.heap.size := cell_lt (hL 0 _ rfl).1
  have hal := ha.lt
  have hbl := hb.lt
  have hcl := hc.lt
  have hl40 := (Lay.ok_len hok).2
  obtain ⟨D, hown, hrep⟩ := hb
  obtain ⟨c42, _⟩ := hL 42 _ (lrnC_at _ _ _ _ _).2.1
  have HL : Hid (Cells w L (lrnC (.slice (some ⟨g, 0, none⟩) code.length cap) (ldB code code.length) a b c)) := hL
  have HR : Hid (Row w g 0 code) := hrow
  have HA : Hid (KM w a K) := ha
  have HC : Hid (KM w c noneK) := hc
  have HLR : Hid (Lrn code K C noneK) := hlrn
  have HREP : Hid (Rep D C) := hrep
  clear hL hrow ha hc hlrn hrep
  go_enter Try.func62, Try.ntmps62
  go_wp2_with (first
    | (at_range; refine wpList_range_own _ rfl _ 47 rfl 51 2 keyedK mapT _ b 400 D rfl hown ?_; intro w0 hrg0 hg0 hs0))
  have hstart : Hid (GoI code g cap L a b c w.heap.size B w K C D w0) := by
    refine ⟨K, noneK, Maps.has D, Maps.size D, hrg0, fun k hk => hk, HA.out.kept hg0 (by simp), HC.out.kept hg0 (by simp), ?_, fun _ _ => leO_refl _, .inr rfl, ?_, ?_⟩
    · have : resK C (fun i s => Maps.has D (spK i s)) = C := by
        funext i s
        unfold resK
        cases hc : C i s with
        | none => simp
        | some v =>
          obtain ⟨h1, h2⟩ := HREP.out.inn i s (by rw [hc]; simp)
          simp only [HREP.out.has i s h1 h2, hc]
          rfl
      rw [this]
      exact HLR.out
    · exact HL.out.on ⟨hg0.os, hg0.tape, hg0.output, hg0.size, fun k hk => hg0.block k hk (by simp)⟩
    · exact ⟨hg0.os, hg0.tape, hg0.output, hg0.size, fun k hk => hg0.block k (by omega) (by simp)⟩
  clear hown hrg0 hg0 c42 HA HC HLR HL hs0
  go_frame
  go_loopw [9] (fun _ wr => Hid (GoI code g cap L a b c w.heap.size B w K C D wr)) (fun _ wr => wr.rangeLeft b w.heap.size)
  case atStart => exact hstart
  case round =>
    clear hstart
    obtain ⟨Kc, La, left, cnt, hrg, hleft, hka, hkc, hlr, hup, hprog, hcl', hbw⟩ := hrel.out
    have HLF : Hid (∀ k, left k = true → Maps.has D k = true) := hleft
    have HKA : Hid (KM wr a Kc) := hka
    have HKC : Hid (KM wr c La) := hkc
    have HLR : Hid (Lrn code Kc (resK C fun i s => left (spK i s)) La) := hlr
    have HUP : Hid (∀ i s, leO (K i s) (Kc i s)) := hup
    have HPR : Hid (hgK code.length K < hgK code.length Kc ∨ La = noneK) := hprog
    have HCL : Hid (Cells wr L (lrnC (.slice (some ⟨g, 0, none⟩) code.length cap) (ldB code code.length) a b c)) := hcl'
    have hrl := hrg.lt
    have hrgE := hrg.left_eq
    clear hrel hleft hka hkc hlr hup hprog hcl'
    go_wp2_with (first
      | (at_next; refine wpList_next_ranges _ rfl _ rfl 51 keyedK _ (fun x : Int × Int => spV x.1 x.2) (fun c : Int => .int .i64 c) (fun key kl h => (keyOf_sp_inv h).imp fun x hx => hx.1) plainV b w.heap.size 400 D left cnt rfl hrg ?_ ?_))
    · intro hc0 hl0
      have hnone : resK C (fun i s => left (spK i s)) = noneK := by
        funext i s
        unfold resK
        simp only [hl0]
        rfl
      have HL2 : Hid (Lrn code Kc La noneK) := by
        have := HLR.out
        rw [hnone] at this
        exact this.turn
      obtain ⟨c42, f42⟩ := HCL.out 42 _ (lrnC_at _ _ _ _ _).2.1
      obtain ⟨c43, f43⟩ := HCL.out 43 _ (lrnC_at _ _ _ _ _).2.2
      have HOWN : Hid (KM wr b C) := ⟨D, hrg.owns, HREP.out⟩
      clear hrg hrgE hc0 hl0 hnone HLR HLF
      go_upto_region 5 with fail
      apply meetP
      case h => intro hp; go_region_law fail; all_goals exact hp
      obtain ⟨Z, hZ⟩ : ∃ Z, Z = ((wr.setCell ⟨L, 42, none⟩ (.map (some c))).setCell ⟨L, 43, none⟩ (.map (some b))).drew := ⟨_, rfl⟩
      have hCZ : Cells Z L (lrnC (.slice (some ⟨g, 0, none⟩) code.length cap) (ldB code code.length) a c b) := by
        rw [hZ, ← lrnC_swap]
        exact (HCL.out.set 42 _).set 43 _
      have hKA : KM Z a Kc := by rw [hZ]; exact (HKA.out.setC (by simpa using fun h => n1 h.symm) _).setC (by simpa using fun h => n1 h.symm) _
      have hKC : KM Z c La := by rw [hZ]; exact (HKC.out.setC (by simpa using fun h => n3 h.symm) _).setC (by simpa using fun h => n3 h.symm) _
      have hKB : KM Z b C := by rw [hZ]; exact (HOWN.out.setC (by simpa using fun h => n2 h.symm) _).setC (by simpa using fun h => n2 h.symm) _
      have hbZ : Below B w Z := by rw [hZ]; exact ((hbw.setCell B1 _).setCell B1 _).drew
      rw [← hZ]
      clear hZ c42 c43 f42 f43 HCL HKA HKC HOWN hbw
      obtain ⟨Z', hrun, hkb, hgZ⟩ := clearK Z b C hKB
      obtain ⟨c43, _⟩ := hCZ 43 _ (lrnC_at _ _ _ _ _).2.2
      have hLZ : L < Z.heap.size := cell_lt c43
      have hBZ : B ≤ Z.heap.size := by omega
      have HCZ : Hid (Cells Z' L (lrnC (.slice (some ⟨g, 0, none⟩) code.length cap) (ldB code code.length) a c b)) := hCZ.gb hgZ n2 hLZ
      have HKA' : Hid (KM Z' a Kc) := hKA.kept hgZ (by simp; omega)
      have HKC' : Hid (KM Z' c La) := hKC.kept hgZ (by simp; omega)
      have HKB' : Hid (KM Z' b noneK) := hkb
      have hbZ' : Below B w Z' := gbB hbZ hgZ B3 hBZ
      clear hCZ hKA hKC hKB hbZ hkb hgZ
      go_wp2
      refine bodyPost_end (results_none rfl _ _ _) rfl ?_
      exact ⟨rfl, Kc, La, HCZ.out, HKA'.out, HKC'.out, HKB'.out, HL2.out, HUP.out, HPR.out, hbZ'⟩
    · intro x1 x2 cv kl yd yp w1 cnt1 hkey hlk hv hat hrg1 hlt hg1 hs1 hen
      obtain ⟨i, s, hi, hs, rfl⟩ := HREP.out.keys kl (HLF.out kl hlk)
      have hBw1 : w.heap.size < w1.heap.size := by omega
      clear hs1
      have hkey2 := keyOf_sp (wf64n (n := i) (by omega)) (wf64n (n := s) (by omega))
      obtain ⟨rfl, rfl⟩ : x1 = (i : Int) ∧ x2 = (s : Int) := by
        have := keyedK.inj hkey hkey2
        simpa [spV] using this
      obtain ⟨v, hCv⟩ : ∃ v, C i s = some v := by
        have h1 := HREP.out.has i s hi hs
        rw [HLF.out _ hlk] at h1
        cases hc : C i s with
        | none => rw [hc] at h1; simp at h1
        | some v => exact ⟨v, rfl⟩
      obtain rfl : cv = v := by
        have h1 := HREP.out.val i s v hCv (.lit (.int .i64 0))
        rw [hat] at h1
        obtain ⟨c', e1, e2, _⟩ := plainElem_int_inv Try.underlying2 hv
        injection e1 with _ e1
        subst e1
        rw [Prod.mk.injEq] at e2
        rw [e2.1] at h1
        injection h1 with h1
        injection h1
      obtain ⟨hv1, hv2⟩ := HREP.out.wf i s cv hCv
      have HRC : Hid (resK C (fun i s => left (spK i s)) i s = some cv) := by show _ = _; unfold resK; simp [hlk, hCv]
      have HTK : Hid ((fun a b => if a = i ∧ b = s then none else resK C (fun i s => left (spK i s)) a b) = resK C fun a b => left (spK a b) && !(spK (a : Int) b).sameKey (spK i s)) := resK_take C HREP.out.inn left hi hs
      have HLF1 : Hid (∀ k, (left k && !k.sameKey (spK i s)) = true → Maps.has D k = true) := fun k hk => HLF.out k (by simp only [Bool.and_eq_true] at hk; exact hk.1)
      have hil : i < code.length := (HLR.out.ci i s (by rw [HRC.out]; simp)).1
      clear hkey hkey2 hv hat hCv HLF
      have hLne : L ≠ w.heap.size := by omega
      have HKA1 : Hid (KM w1 a Kc) := HKA.out.kept hg1 (by simp; omega)
      have HKC1 : Hid (KM w1 c La) := HKC.out.kept hg1 (by simp; omega)
      have hLwr : L < wr.heap.size := by omega
      have HCL1 : Hid (Cells w1 L (lrnC (.slice (some ⟨g, 0, none⟩) code.length cap) (ldB code code.length) a b c)) := HCL.out.gb hg1 hLne hLwr
      have hbw1 : Below B w w1 := gbB hbw hg1 (by omega) (by omega)
      have HRG1 : Hid (w1.ranges Try.prog 51 (plainElem Try.prog 2) b w.heap.size 400 D (fun z => left z && !z.sameKey (spK i s)) cnt1) := hrg1
      clear HKA HKC HCL hbw hrg1 hrg hg1
      obtain ⟨W2, hW2⟩ : ∃ W2, W2 = w1.alloc (.cells #[.int .i64 (i : Int), .int .i64 (s : Int)] 51) := ⟨_, rfl⟩
      have hb12 : Below w1.heap.size w1 W2 := by rw [hW2]; exact (Below.refl _ _).alloc (Nat.le_refl _) _
      have CS2 : Hid (Cells W2 w1.heap.size [.int .i64 (i : Int), .int .i64 (s : Int)]) := by show Cells _ _ _; rw [hW2]; exact Cells.new w1 _ rfl _ _
      have hW2s : w1.heap.size < W2.heap.size := by rw [hW2]; simp
      go_upto_region 3 with fail
      rw [← hW2]
      clear hW2 hen
      have HKA2 : Hid (KM W2 a Kc) := HKA1.out.on hb12
      have HKC2 : Hid (KM W2 c La) := HKC1.out.on hb12
      have HCL2 : Hid (Cells W2 L (lrnC (.slice (some ⟨g, 0, none⟩) code.length cap) (ldB code code.length) a b c)) := HCL1.out.on hb12
      have hbw2 : Below B w W2 := hbw1.trans (hb12.mono (by omega))
      have HRG2 : Hid (W2.ranges Try.prog 51 (plainElem Try.prog 2) b w.heap.size 400 D (fun z => left z && !z.sameKey (spK i s)) cnt1) := HRG1.out.kept (gb_of hb12 none) (by simp) (by simp)
      clear HKA1 HKC1 HCL1 hbw1 HRG1 hb12
      obtain ⟨c41, _⟩ := HCL2.out 41 _ (lrnC_at _ _ _ _ _).1
      obtain ⟨s0, _⟩ := CS2.out 0 _ rfl
      obtain ⟨s1, _⟩ := CS2.out 1 _ rfl
      apply meetP
      case h =>
        intro hp
        go_region_law (go_simp; go_at_call 72; refine (learn_at a Kc i s hi hs cv hv1 hv2 _ HKA2.out.drew).mono ?_; rintro e w3 ⟨y, hy, rfl, hk3, hg3⟩; dsimp only)
        all_goals (revert w3 y; exact hp)
      intro w3 y hy hk3 hg3
      have HG3 : W2.grownBy w3 (some a) := ⟨hg3.os, hg3.tape, hg3.output, hg3.size, hg3.block⟩
      clear hg3 c41 s0 s1
      have HKC3 : Hid (KM w3 c La) := HKC2.out.kept HG3 (by simp; omega)
      have hbw3 : Below B w w3 := gbB hbw2 HG3 B2 (by omega)
      have hLW2 : L < W2.heap.size := by omega
      have HCL3 : Hid (Cells w3 L (lrnC (.slice (some ⟨g, 0, none⟩) code.length cap) (ldB code code.length) a b c)) := HCL2.out.gb HG3 n1 hLW2
      have CS3 : Hid (Cells w3 w1.heap.size [.int .i64 (i : Int), .int .i64 (s : Int)]) := CS2.out.gb HG3 (by omega) hW2s
      have HRG3 : Hid (w3.ranges Try.prog 51 (plainElem Try.prog 2) b w.heap.size 400 D (fun z => left z && !z.sameKey (spK i s)) cnt1) := HRG2.out.kept HG3 (by simp; omega) (by simp; omega)
      have HK3 : Hid (KM w3 a (setK Kc i s y)) := hk3
      have hw3s : w1.heap.size < w3.heap.size := Nat.lt_of_lt_of_le hW2s HG3.size
      have HL1 := HLR.out.one hok HRC.out hy
      rw [HTK.out] at HL1
      have HUP3 : Hid (∀ p q, leO (K p q) (setK Kc i s y p q)) := fun p q => by
        refine leO_trans (HUP.out p q) ?_
        unfold setK
        split
        · rename_i e; rw [e.1, e.2, ← hy]; exact joO_up _ _
        · exact leO_refl _
      have hrgE3 := HRG3.out.left_eq
      clear HKA2 HKC2 HCL2 hbw2 HRG2 CS2 hk3 HTK HRC
      by_cases hn : Kc i s = some y
      · rw [if_pos hn] at HL1
        have HL2 : Hid (Lrn code (setK Kc i s y) (resK C fun a b => left (spK a b) && !(spK (a : Int) b).sameKey (spK i s)) La) := HL1
        have HPR3 : Hid (hgK code.length K < hgK code.length (setK Kc i s y) ∨ La = noneK) := by show _ ∨ _; rw [setK_same hn]; exact HPR.out
        have hnd : (!decide (Kc i s = some y)) = false := by simp [hn]
        rw [hnd]
        clear HL1 HLR HUP HPR hn hnd hy
        go_wp2
        go_roundw
        case rel => exact ⟨_, _, _, _, HRG3.out, HLF1.out, HK3.out, HKC3.out, HL2.out, HUP3.out, HPR3.out, HCL3.out, hbw3⟩
        case measure => rw [hrgE3, hrgE]; omega
      · rw [if_neg hn] at HL1
        have HL2 : Hid (Lrn code (setK Kc i s y) (resK C fun a b => left (spK a b) && !(spK (a : Int) b).sameKey (spK i s)) (passK code i s y La)) := HL1
        have HPR3 : Hid (hgK code.length K < hgK code.length (setK Kc i s y)) := by
          refine Nat.lt_of_le_of_lt (hgK_le HUP.out) (hgK_lt (i := i) (s := s) (fun p q => ?_) hil hs ?_)
          · unfold setK
            split
            · rename_i e; rw [e.1, e.2, ← hy]; exact joO_up _ _
            · exact leO_refl _
          · unfold setK; rw [if_pos ⟨rfl, rfl⟩]; exact hn
        have hnd : (!decide (Kc i s = some y)) = true := by simp [hn]
        rw [hnd]
        clear HL1 HLR HUP HPR hn hnd hy
        obtain ⟨D3, hown3, hrep3⟩ := HK3.out
        obtain ⟨z, hrun, hzat, _⟩ := hown3.drew.lookup_int keyedK mapT Try.underlying2 (zeroI _) (keyOf_sp (wf64n (n := i) (by omega)) (wf64n (n := s) (by omega)))
        have hyz : z = y := by
          have h1 := hrep3.val i s y (by simp [setK]) (.lit (.int .i64 0))
          rw [hzat] at h1
          injection h1 with h1
          injection h1
        subst hyz
        obtain ⟨hy1, hy2⟩ := hrep3.wf i s z (by simp [setK])
        clear hzat hown3 hrep3
        have hdr : ∀ w : World, Below w.heap.size w w.drew := fun w => (Below.refl _ _).drew
        have HR3 : Hid (Row w3 g 0 code) := HR.out.below hbw3 hgB
        obtain ⟨c41, _⟩ := HCL3.out 41 _ (lrnC_at _ _ _ _ _).1
        obtain ⟨s0, _⟩ := CS3.out 0 _ rfl
        obtain ⟨s1, _⟩ := CS3.out 1 _ rfl
        have hgc : g ≠ c := by omega
        go_upto_region 4 with fail
        apply meetP
        case h =>
          intro hp
          go_region_law (go_simp; go_at_call 73; refine (passOn_at g cap L a b c code hok i hil s hs z hy1 hy2 _ (HR3.out.on (hdr w3)) (HCL3.out.on (hdr w3)) n3 hgc La HKC3.out.drew).mono ?_; rintro e w4 ⟨rfl, hk4, hg4⟩; dsimp only)
          all_goals (revert w4; exact hp)
        intro w4 hk4 hg4
        have HG4 : w3.grownBy w4 (some c) := ⟨hg4.os, hg4.tape, hg4.output, hg4.size, hg4.block⟩
        have HKA4 : Hid (KM w4 a (setK Kc i s z)) := HK3.out.kept HG4 (by simp; omega)
        have HKC4 : Hid (KM w4 c (passK code i s z La)) := hk4
        have HCL4 : Hid (Cells w4 L (lrnC (.slice (some ⟨g, 0, none⟩) code.length cap) (ldB code code.length) a b c)) := HCL3.out.gb HG4 n3 (by omega)
        have hbw4 : Below B w w4 := gbB hbw3 HG4 B4 (by omega)
        have HRG4 : Hid (w4.ranges Try.prog 51 (plainElem Try.prog 2) b w.heap.size 400 D (fun z => left z && !z.sameKey (spK i s)) cnt1) := HRG3.out.kept HG4 (by simp; omega) (by simp; omega)
        have hrgE4 := HRG4.out.left_eq
        clear hk4 hg4 HK3 HKC3 HCL3 hbw3 HRG3 hrgE3 hrun c41 s0 s1 CS3
        go_wp2
        go_roundw
        case rel => exact ⟨_, _, _, _, HRG4.out, HLF1.out, HKA4.out, HKC4.out, HL2.out, HUP3.out, .inl HPR3.out, HCL4.out, hbw4⟩
        case measure => rw [hrgE4, hrgE]; omega
end Pg
end Go.Proofs.Ythabenjodhjgiaa

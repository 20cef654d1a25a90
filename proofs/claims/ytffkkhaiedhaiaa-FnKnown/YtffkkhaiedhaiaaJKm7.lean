/- What is passed on, plainly; contracts: a round of the learner. -/
import Derived.Test.YtffkkhaiedhaiaaJGn0
import Derived.Laws.Tables
namespace Go.Proofs.Ytffkkhaiedhaiaa
namespace Pg
open Go.ChangeShapes Go.WideShapes Go.ChangeAt Go.RowKit St Wd

theorem tellK_up (code : List Tx.Ins) (i : Nat) (m : Kw) (j : Nat) (x : Int) (t s : Nat) : leO (m t s) (tellK code i m j x t s) := by
  unfold tellK
  split
  · exact joO_up _ _
  · exact leO_refl _
theorem fold_up (code : List Tx.Ins) (i : Nat) : ∀ (l : List (Int × Int)) (m : Kw) (t s : Nat), leO (m t s) (l.foldl (fun m p => tellK code i m p.1.toNat p.2) m t s)
  | [], _, _, _ => leO_refl _
  | p :: l, m, t, s => leO_trans (tellK_up code i m p.1.toNat p.2 t s) (fold_up code i l _ t s)
theorem fold_in (code : List Tx.Ins) (i : Nat) : ∀ (l : List (Int × Int)) (m : Kw) (p : Int × Int), p ∈ l → ∀ t, nxB code i t = true → leO (some p.2) (l.foldl (fun m p => tellK code i m p.1.toNat p.2) m t p.1.toNat)
  | [], _, p, hp, _, _ => by simp at hp
  | q :: l, m, p, hp, t, ht => by
    rcases List.mem_cons.1 hp with rfl | hp
    · refine leO_trans ?_ (fold_up code i l _ t _)
      show leO _ (tellK code i m p.1.toNat p.2 t p.1.toNat)
      unfold tellK
      rw [if_pos ⟨rfl, ht⟩]
      exact joO_in _ _
    · exact fold_in code i l _ p hp t ht
theorem fold_under (code : List Tx.Ins) (i : Nat) : ∀ (l : List (Int × Int)) (m : Kw), UnderK code m → (∀ p ∈ l, ∀ K', SolK code K' → ∀ t, nxB code i t = true → leO (some p.2) (K' t p.1.toNat)) → UnderK code (l.foldl (fun m p => tellK code i m p.1.toNat p.2) m)
  | [], _, h, _ => h
  | p :: l, m, h, hp => by
    refine fold_under code i l _ (fun K' hK t ht s hs => ?_) (fun q hq => hp q (List.mem_cons_of_mem _ hq))
    show leO (tellK code i m p.1.toNat p.2 t s) _
    unfold tellK
    split
    · rename_i e
      rw [e.1]
      refine joO_least ?_ (hp p List.mem_cons_self K' hK t e.2)
      have := h K' hK t ht s hs
      rwa [e.1] at this
    · exact h K' hK t ht s hs
theorem fold_inK {code : List Tx.Ins} (i : Nat) : ∀ (l : List (Int × Int)) (m : Kw), inK code m → (∀ p ∈ l, p.1.toNat < 8) → inK code (l.foldl (fun m p => tellK code i m p.1.toNat p.2) m)
  | [], _, h, _ => h
  | p :: l, m, h, hp => by
    refine fold_inK i l _ (fun t s hts => ?_) (fun q hq => hp q (List.mem_cons_of_mem _ hq))
    change tellK code i m p.1.toNat p.2 t s ≠ none at hts
    unfold tellK at hts
    split at hts
    · rename_i e
      have h2 := e.2
      unfold nxB at h2
      simp only [Bool.and_eq_true, decide_eq_true_eq] at h2
      exact ⟨h2.2, by rw [e.1]; exact hp p List.mem_cons_self⟩
    · exact h t s hts
theorem tells_small {code : List Tx.Ins} (hok : Lay.codeOk code = true) {i s : Nat} (hi : i < code.length) (hs : s < 8) (v : Int) : ∀ p ∈ tellsF code i s v, 0 ≤ p.1 ∧ p.1 < 8 := by
  intro p hp
  unfold tellsF at hp
  split at hp
  · simp at hp; subst hp; dsimp only; omega
  · rename_i h3
    have := store_in hok hi (.inl (by simpa using h3))
    simp only [List.mem_append] at hp
    rcases hp with (hp | hp) | hp
    · split at hp
      · simp at hp; subst hp; dsimp only; omega
      · simp at hp
    · split at hp
      · simp at hp; subst hp; exact this
      · simp at hp
    · split at hp
      · simp at hp; subst hp; exact this
      · simp at hp
/-- What is left of what comes. -/
def resK (C : Kw) (left : Nat → Nat → Bool) : Kw := fun i s => if left i s then C i s else none
/-- One that comes is learnt; where it is news it is passed on. -/
theorem Lrn.one {code : List Tx.Ins} (hok : Lay.codeOk code = true) {K C L : Kw} (h : Lrn code K C L) {i s : Nat} {v y : Int} (hC : C i s = some v) (hy : joO (K i s) v = some y) :
    Lrn code (setK K i s y) (fun a b => if a = i ∧ b = s then none else C a b) (if K i s = some y then L else passK code i s y L) := by
  obtain ⟨hi, hs⟩ := h.ci i s (by rw [hC]; simp)
  have hyU : ∀ K', SolK code K' → leO (some y) (K' i s) := fun K' hK => by
    rw [← hy]
    exact joO_least (h.ku K' hK i hi s hs) (by have := h.cu K' hK i hi s hs; rwa [hC] at this)
  have hsm := tells_small hok hi hs y
  split
  · rename_i e
    exact h.learn hC hy h.li h.lu (fun _ _ => leO_refl _) (fun hn => absurd e hn)
  · refine h.learn hC hy (fold_inK i _ _ h.li fun p hp => by have := hsm p hp; omega) (fold_under code i _ _ h.lu fun p hp K' hK t ht => ?_) (fold_up code i _ _) (fun _ j hj x hx t ht => ?_)
    · have := hsm p hp
      refine under_tells hK hi hs (hyU K' hK) (by omega) (x := p.2) ?_ ht
      have e : ((p.1.toNat : Nat) : Int) = p.1 := by omega
      rw [e]
      exact hp
    · have := fold_in code i (tellsF code i s y) L ((j : Int), x) hx t ht
      unfold passK
      simpa using this
/-- What a round has come to. -/
def GoI (code : List Tx.Ins) (g cap L a b c r B : Nat) (w : World) (K C : Kw) (D : DataW Unit) (wr : World) : Prop :=
  ∃ (Kc La : Kw) (left : Lit → Bool) (cnt : Nat), wr.ranges Try.prog 102 (plainElem Try.prog 2) b r 400 D left cnt ∧ (∀ k, left k = true → Maps.has D k = true) ∧ KM wr a Kc ∧ KM wr c La ∧
    Lrn code Kc (resK C fun i s => left (spK i s)) La ∧ (∀ i s, leO (K i s) (Kc i s)) ∧ (hgK code.length K < hgK code.length Kc ∨ La = noneK) ∧
    Cells wr L (lrnC (.slice (some ⟨g, 0, none⟩) code.length cap) (ldB code code.length) a b c) ∧ Below B w wr
open Go.MapKept Go.WideElems Go.ChangeMaps in
theorem clearK (w : World) (b : Nat) (m : Kw) (h : KM w b m) : ∃ w', (∀ ty, (Builtin.clear_ #[98] ty #[.map (some b)]).run Try.prog w = .ok (.tuple #[]) w') ∧ KM w' b noneK ∧ w.grownBy w' (some b) := by
  obtain ⟨D, ⟨es, clock, hb, F, hs, hD⟩, _⟩ := h
  refine ⟨setBlock w b (.map #[] clock), ?_, ⟨.map [], ⟨#[], clock, heap_setBlock_same hb _, ⟨by simp, ?_, by simp⟩, by simp, by simp⟩, rep_nil⟩, ⟨rfl, rfl, rfl, by simp [setBlock], fun i _ hi => heap_setBlock_other hb _ (fun e => hi (by rw [e]))⟩⟩
  · intro ty
    simp [Builtin.clear_, run_underlying mapT, MapKept.run_getObj_map hb, MapKept.run_setObj_map _ hb, Result.andThen, setBlock]
  · exact (stamped_iff _ _).2 ⟨by simp, by simp, by simp⟩
end Pg
end Go.Proofs.Ytffkkhaiedhaiaa

/- Contracts: a round of the learner. -/
namespace Go.Proofs.Ytffkkhaiedhaiaa
namespace Pg
open Go.ChangeShapes Go.WideShapes Go.ChangeAt Go.RowKit St Wd

theorem gbB {B : Nat} {u v w : World} {b : Nat} (h : Below B u v) (k : v.grownBy w (some b)) (hb : B ≤ b) (hs : B ≤ v.heap.size) : Below B u w :=
  ⟨k.os.trans h.os, k.tape.trans h.tape, k.output.trans h.output, Nat.le_trans h.size k.size, fun j hj => (k.block j (by omega) (by simp; omega)).trans (h.block j hj)⟩
theorem plainV (v : Value) (y : DataW Unit × List MemPlace) (h : plainElem Try.prog 2 v = some y) : ∃ c : Int, v = .int .i64 c := by
  obtain ⟨c, hc, _⟩ := plainElem_int_inv Try.underlying2 h
  exact ⟨c, hc⟩
theorem resK_take (C : Kw) (hC : in40 C) (left : Lit → Bool) {i s : Nat} (hi : i < 40) (hs : s < 8) : (fun a b => if a = i ∧ b = s then none else resK C (fun i s => left (spK i s)) a b) = resK C fun a b => left (spK a b) && !(spK (a : Int) b).sameKey (spK i s) := by
  funext a b
  unfold resK
  by_cases e : a = i ∧ b = s
  · obtain ⟨rfl, rfl⟩ := e
    have : (spK (a : Int) b).sameKey (spK a b) = true := WideAt.sameKey_self (spK_key (by omega) (by omega))
    simp [this]
  · rw [if_neg e]
    cases hc : C a b with
    | none => simp
    | some v =>
      obtain ⟨ha, hb⟩ := hC a b (by rw [hc]; simp)
      have : (spK (a : Int) b).sameKey (spK i s) = false := Maps.sameKey_ne (fun h => e (spK_inj (by omega) (by omega) (by omega) (by omega) h))
      simp [this]
theorem setK_same {K : Kw} {i s : Nat} {y : Int} (h : K i s = some y) : setK K i s y = K := by
  funext a b
  unfold setK
  split
  · rename_i e; rw [e.1, e.2, h]
  · rfl
theorem KM.setC {w : World} {b : Nat} {m : Kw} (h : KM w b m) {ad : Addr} (hne : b ≠ ad.block) (v : Value) : KM (w.setCell ad v) b m := by
  obtain ⟨D, h1, h2⟩ := h
  exact ⟨D, h1.setCell hne v, h2⟩
theorem lrnC_swap (v : Value) (P : Nat → Bool) (a b c : Nat) : ((lrnC v P a b c).set 42 (.map (some c))).set 43 (.map (some b)) = lrnC v P a c b := by
  unfold lrnC
  rw [List.set_cons_succ, List.set_append, if_neg (by rw [chi_len]; omega), chi_len, List.set_cons_succ, List.set_append, if_neg (by rw [chi_len]; omega), chi_len]
  rfl
theorem KM.drew {w : World} {b : Nat} {m : Kw} (h : KM w b m) : KM w.drew b m := h
set_option maxRecDepth 100000 in
set_option maxHeartbeats 4000000 in
theorem goOn_at (g cap L : Nat) (a b c : Nat) (code : List Tx.Ins) (hok : Lay.codeOk code = true) (B : Nat) (w : World) (hrow : Row w g 0 code) (hgB : g < B) (hB : B ≤ L ∧ B ≤ a ∧ B ≤ b ∧ B ≤ c) (hne : L ≠ a ∧ L ≠ b ∧ L ≠ c ∧ a ≠ b ∧ a ≠ c ∧ b ≠ c)
    (hL : Cells w L (lrnC (.slice (some ⟨g, 0, none⟩) code.length cap) (ldB code code.length) a b c)) (K C : Kw) (ha : KM w a K) (hb : KM w b C) (hc : KM w c noneK) (hlrn : Lrn code K C noneK) :
    Calls Try.prog 96 #[.pointer (some ⟨L, 0, none⟩)] w fun e w' => e = .returned (.tuple #[]) ∧ ∃ K' M, Cells w' L (lrnC (.slice (some ⟨g, 0, none⟩) code.length cap) (ldB code code.length) a c b) ∧
      KM w' a K' ∧ KM w' c M ∧ KM w' b noneK ∧ Lrn code K' M noneK ∧ (∀ i s, leO (K i s) (K' i s)) ∧ (hgK code.length K < hgK code.length K' ∨ M = noneK) ∧ Below B w w' := by
  obtain ⟨n1, n2, n3, n4, n5, n6⟩ := hne
  obtain ⟨B1, B2, B3, B4⟩ := hB
  have hLl : L < w.heap.size := cell_lt (hL 0 _ rfl).1
  have hal := ha.lt
  have hbl := hb.lt
  have hcl := hc.lt
  have hl40 := (Lay.ok_len hok).2
  obtain ⟨D, hown, hrep⟩ := hb
  obtain ⟨c42, _⟩ := hL 42 _ (lrnC_at _ _ _ _ _).2.1
  have HL : Hid (Cells w L (lrnC (.slice (some ⟨g, 0, none⟩) code.length cap) (ldB code code.length) a b c)) := hL
  have HR : Hid (Row w g 0 code) := hrow
  have HA : Hid (KM w a K) := ha
  have HC : Hid (KM w c noneK) := hc
  have HLR : Hid (Lrn code K C noneK) := hlrn
  have HREP : Hid (Rep D C) := hrep
  clear hL hrow ha hc hlrn hrep
  go_enter Try.func96, Try.ntmps96
  go_wp2_with (first
    | (at_range; refine wpList_range_own _ rfl _ 98 rfl 102 2 keyedK mapT _ b 400 D rfl hown ?_; intro w0 hrg0 hg0 hs0))
  have hstart : Hid (GoI code g cap L a b c w.heap.size B w K C D w0) := by
    refine ⟨K, noneK, Maps.has D, Maps.size D, hrg0, fun k hk => hk, HA.out.kept hg0 (by simp), HC.out.kept hg0 (by simp), ?_, fun _ _ => leO_refl _, .inr rfl, ?_, ?_⟩
    · have : resK C (fun i s => Maps.has D (spK i s)) = C := by
        funext i s
        unfold resK
        cases hc : C i s with
        | none => simp
        | some v =>
          obtain ⟨h1, h2⟩ := HREP.out.inn i s (by rw [hc]; simp)
          simp only [HREP.out.has i s h1 h2, hc]
          rfl
      rw [this]
      exact HLR.out
    · exact HL.out.on ⟨hg0.os, hg0.tape, hg0.output, hg0.size, fun k hk => hg0.block k hk (by simp)⟩
    · exact ⟨hg0.os, hg0.tape, hg0.output, hg0.size, fun k hk => hg0.block k (by omega) (by simp)⟩
  clear hown hrg0 hg0 c42 HA HC HLR HL hs0
  go_frame
  go_loopw [9] (fun _ wr => Hid (GoI code g cap L a b c w.heap.size B w K C D wr)) (fun _ wr => wr.rangeLeft b w.heap.size)
  case atStart => exact hstart
  case round =>
    clear hstart
    obtain ⟨Kc, La, left, cnt, hrg, hleft, hka, hkc, hlr, hup, hprog, hcl', hbw⟩ := hrel.out
    have HLF : Hid (∀ k, left k = true → Maps.has D k = true) := hleft
    have HKA : Hid (KM wr a Kc) := hka
    have HKC : Hid (KM wr c La) := hkc
    have HLR : Hid (Lrn code Kc (resK C fun i s => left (spK i s)) La) := hlr
    have HUP : Hid (∀ i s, leO (K i s) (Kc i s)) := hup
    have HPR : Hid (hgK code.length K < hgK code.length Kc ∨ La = noneK) := hprog
    have HCL : Hid (Cells wr L (lrnC (.slice (some ⟨g, 0, none⟩) code.length cap) (ldB code code.length) a b c)) := hcl'
    have hrl := hrg.lt
    have hrgE := hrg.left_eq
    clear hrel hleft hka hkc hlr hup hprog hcl'
    go_wp2_with (first
      | (at_next; refine wpList_next_ranges _ rfl _ rfl 102 keyedK _ (fun x : Int × Int => spV x.1 x.2) (fun c : Int => .int .i64 c) (fun key kl h => (keyOf_sp_inv h).imp fun x hx => hx.1) plainV b w.heap.size 400 D left cnt rfl hrg ?_ ?_))
    · intro hc0 hl0
      have hnone : resK C (fun i s => left (spK i s)) = noneK := by
        funext i s
        unfold resK
        simp only [hl0]
        rfl
      have HL2 : Hid (Lrn code Kc La noneK) := by
        have := HLR.out
        rw [hnone] at this
        exact this.turn
      obtain ⟨c42, f42⟩ := HCL.out 42 _ (lrnC_at _ _ _ _ _).2.1
      obtain ⟨c43, f43⟩ := HCL.out 43 _ (lrnC_at _ _ _ _ _).2.2
      have HOWN : Hid (KM wr b C) := ⟨D, hrg.owns, HREP.out⟩
      clear hrg hrgE hc0 hl0 hnone HLR HLF
      go_upto_region 5 with fail
      apply meetP
      case h => intro hp; go_region_law fail; all_goals exact hp
      obtain ⟨Z, hZ⟩ : ∃ Z, Z = ((wr.setCell ⟨L, 42, none⟩ (.map (some c))).setCell ⟨L, 43, none⟩ (.map (some b))).drew := ⟨_, rfl⟩
      have hCZ : Cells Z L (lrnC (.slice (some ⟨g, 0, none⟩) code.length cap) (ldB code code.length) a c b) := by
        rw [hZ, ← lrnC_swap]
        exact (HCL.out.set 42 _).set 43 _
      have hKA : KM Z a Kc := by rw [hZ]; exact (HKA.out.setC (by simpa using fun h => n1 h.symm) _).setC (by simpa using fun h => n1 h.symm) _
      have hKC : KM Z c La := by rw [hZ]; exact (HKC.out.setC (by simpa using fun h => n3 h.symm) _).setC (by simpa using fun h => n3 h.symm) _
      have hKB : KM Z b C := by rw [hZ]; exact (HOWN.out.setC (by simpa using fun h => n2 h.symm) _).setC (by simpa using fun h => n2 h.symm) _
      have hbZ : Below B w Z := by rw [hZ]; exact ((hbw.setCell B1 _).setCell B1 _).drew
      rw [← hZ]
      clear hZ c42 c43 f42 f43 HCL HKA HKC HOWN hbw
      obtain ⟨Z', hrun, hkb, hgZ⟩ := clearK Z b C hKB
      obtain ⟨c43, _⟩ := hCZ 43 _ (lrnC_at _ _ _ _ _).2.2
      have hLZ : L < Z.heap.size := cell_lt c43
      have hBZ : B ≤ Z.heap.size := by omega
      have HCZ : Hid (Cells Z' L (lrnC (.slice (some ⟨g, 0, none⟩) code.length cap) (ldB code code.length) a c b)) := hCZ.gb hgZ n2 hLZ
      have HKA' : Hid (KM Z' a Kc) := hKA.kept hgZ (by simp; omega)
      have HKC' : Hid (KM Z' c La) := hKC.kept hgZ (by simp; omega)
      have HKB' : Hid (KM Z' b noneK) := hkb
      have hbZ' : Below B w Z' := gbB hbZ hgZ B3 hBZ
      clear hCZ hKA hKC hKB hbZ hkb hgZ
      go_wp2
      refine bodyPost_end (results_none rfl _ _ _) rfl ?_
      exact ⟨rfl, Kc, La, HCZ.out, HKA'.out, HKC'.out, HKB'.out, HL2.out, HUP.out, HPR.out, hbZ'⟩
    · intro x1 x2 cv kl yd yp w1 cnt1 hkey hlk hv hat hrg1 hlt hg1 hs1 hen
      obtain ⟨i, s, hi, hs, rfl⟩ := HREP.out.keys kl (HLF.out kl hlk)
      have hBw1 : w.heap.size < w1.heap.size := by omega
      clear hs1
      have hkey2 := keyOf_sp (wf64n (n := i) (by omega)) (wf64n (n := s) (by omega))
      obtain ⟨rfl, rfl⟩ : x1 = (i : Int) ∧ x2 = (s : Int) := by
        have := keyedK.inj hkey hkey2
        simpa [spV] using this
      obtain ⟨v, hCv⟩ : ∃ v, C i s = some v := by
        have h1 := HREP.out.has i s hi hs
        rw [HLF.out _ hlk] at h1
        cases hc : C i s with
        | none => rw [hc] at h1; simp at h1
        | some v => exact ⟨v, rfl⟩
      obtain rfl : cv = v := by
        have h1 := HREP.out.val i s v hCv (.lit (.int .i64 0))
        rw [hat] at h1
        obtain ⟨c', e1, e2, _⟩ := plainElem_int_inv Try.underlying2 hv
        injection e1 with _ e1
        subst e1
        rw [Prod.mk.injEq] at e2
        rw [e2.1] at h1
        injection h1 with h1
        injection h1
      obtain ⟨hv1, hv2⟩ := HREP.out.wf i s cv hCv
      have HRC : Hid (resK C (fun i s => left (spK i s)) i s = some cv) := by show _ = _; unfold resK; simp [hlk, hCv]
      have HTK : Hid ((fun a b => if a = i ∧ b = s then none else resK C (fun i s => left (spK i s)) a b) = resK C fun a b => left (spK a b) && !(spK (a : Int) b).sameKey (spK i s)) := resK_take C HREP.out.inn left hi hs
      have HLF1 : Hid (∀ k, (left k && !k.sameKey (spK i s)) = true → Maps.has D k = true) := fun k hk => HLF.out k (by simp only [Bool.and_eq_true] at hk; exact hk.1)
      have hil : i < code.length := (HLR.out.ci i s (by rw [HRC.out]; simp)).1
      clear hkey hkey2 hv hat hCv HLF
      have hLne : L ≠ w.heap.size := by omega
      have HKA1 : Hid (KM w1 a Kc) := HKA.out.kept hg1 (by simp; omega)
      have HKC1 : Hid (KM w1 c La) := HKC.out.kept hg1 (by simp; omega)
      have hLwr : L < wr.heap.size := by omega
      have HCL1 : Hid (Cells w1 L (lrnC (.slice (some ⟨g, 0, none⟩) code.length cap) (ldB code code.length) a b c)) := HCL.out.gb hg1 hLne hLwr
      have hbw1 : Below B w w1 := gbB hbw hg1 (by omega) (by omega)
      have HRG1 : Hid (w1.ranges Try.prog 102 (plainElem Try.prog 2) b w.heap.size 400 D (fun z => left z && !z.sameKey (spK i s)) cnt1) := hrg1
      clear HKA HKC HCL hbw hrg1 hrg hg1
      obtain ⟨W2, hW2⟩ : ∃ W2, W2 = w1.alloc (.cells #[.int .i64 (i : Int), .int .i64 (s : Int)] 102) := ⟨_, rfl⟩
      have hb12 : Below w1.heap.size w1 W2 := by rw [hW2]; exact (Below.refl _ _).alloc (Nat.le_refl _) _
      have CS2 : Hid (Cells W2 w1.heap.size [.int .i64 (i : Int), .int .i64 (s : Int)]) := by show Cells _ _ _; rw [hW2]; exact Cells.new w1 _ rfl _ _
      have hW2s : w1.heap.size < W2.heap.size := by rw [hW2]; simp
      go_upto_region 3 with fail
      rw [← hW2]
      clear hW2 hen
      have HKA2 : Hid (KM W2 a Kc) := HKA1.out.on hb12
      have HKC2 : Hid (KM W2 c La) := HKC1.out.on hb12
      have HCL2 : Hid (Cells W2 L (lrnC (.slice (some ⟨g, 0, none⟩) code.length cap) (ldB code code.length) a b c)) := HCL1.out.on hb12
      have hbw2 : Below B w W2 := hbw1.trans (hb12.mono (by omega))
      have HRG2 : Hid (W2.ranges Try.prog 102 (plainElem Try.prog 2) b w.heap.size 400 D (fun z => left z && !z.sameKey (spK i s)) cnt1) := HRG1.out.kept (gb_of hb12 none) (by simp) (by simp)
      clear HKA1 HKC1 HCL1 hbw1 HRG1 hb12
      obtain ⟨c41, _⟩ := HCL2.out 41 _ (lrnC_at _ _ _ _ _).1
      obtain ⟨s0, _⟩ := CS2.out 0 _ rfl
      obtain ⟨s1, _⟩ := CS2.out 1 _ rfl
      apply meetP
      case h =>
        intro hp
        go_region_law (go_simp; go_at_call 111; refine (learn_at a Kc i s hi hs cv hv1 hv2 _ HKA2.out.drew).mono ?_; rintro e w3 ⟨y, hy, rfl, hk3, hg3⟩; dsimp only)
        all_goals (revert w3 y; exact hp)
      intro w3 y hy hk3 hg3
      have HG3 : W2.grownBy w3 (some a) := ⟨hg3.os, hg3.tape, hg3.output, hg3.size, hg3.block⟩
      clear hg3 c41 s0 s1
      have HKC3 : Hid (KM w3 c La) := HKC2.out.kept HG3 (by simp; omega)
      have hbw3 : Below B w w3 := gbB hbw2 HG3 B2 (by omega)
      have hLW2 : L < W2.heap.size := by omega
      have HCL3 : Hid (Cells w3 L (lrnC (.slice (some ⟨g, 0, none⟩) code.length cap) (ldB code code.length) a b c)) := HCL2.out.gb HG3 n1 hLW2
      have CS3 : Hid (Cells w3 w1.heap.size [.int .i64 (i : Int), .int .i64 (s : Int)]) := CS2.out.gb HG3 (by omega) hW2s
      have HRG3 : Hid (w3.ranges Try.prog 102 (plainElem Try.prog 2) b w.heap.size 400 D (fun z => left z && !z.sameKey (spK i s)) cnt1) := HRG2.out.kept HG3 (by simp; omega) (by simp; omega)
      have HK3 : Hid (KM w3 a (setK Kc i s y)) := hk3
      have hw3s : w1.heap.size < w3.heap.size := Nat.lt_of_lt_of_le hW2s HG3.size
      have HL1 := HLR.out.one hok HRC.out hy
      rw [HTK.out] at HL1
      have HUP3 : Hid (∀ p q, leO (K p q) (setK Kc i s y p q)) := fun p q => by
        refine leO_trans (HUP.out p q) ?_
        unfold setK
        split
        · rename_i e; rw [e.1, e.2, ← hy]; exact joO_up _ _
        · exact leO_refl _
      have hrgE3 := HRG3.out.left_eq
      clear HKA2 HKC2 HCL2 hbw2 HRG2 CS2 hk3 HTK HRC
      by_cases hn : Kc i s = some y
      · rw [if_pos hn] at HL1
        have HL2 : Hid (Lrn code (setK Kc i s y) (resK C fun a b => left (spK a b) && !(spK (a : Int) b).sameKey (spK i s)) La) := HL1
        have HPR3 : Hid (hgK code.length K < hgK code.length (setK Kc i s y) ∨ La = noneK) := by show _ ∨ _; rw [setK_same hn]; exact HPR.out
        have hnd : (!decide (Kc i s = some y)) = false := by simp [hn]
        rw [hnd]
        clear HL1 HLR HUP HPR hn hnd hy
        go_wp2
        go_roundw
        case rel => exact ⟨_, _, _, _, HRG3.out, HLF1.out, HK3.out, HKC3.out, HL2.out, HUP3.out, HPR3.out, HCL3.out, hbw3⟩
        case measure => rw [hrgE3, hrgE]; omega
      · rw [if_neg hn] at HL1
        have HL2 : Hid (Lrn code (setK Kc i s y) (resK C fun a b => left (spK a b) && !(spK (a : Int) b).sameKey (spK i s)) (passK code i s y La)) := HL1
        have HPR3 : Hid (hgK code.length K < hgK code.length (setK Kc i s y)) := by
          refine Nat.lt_of_le_of_lt (hgK_le HUP.out) (hgK_lt (i := i) (s := s) (fun p q => ?_) hil hs ?_)
          · unfold setK
            split
            · rename_i e; rw [e.1, e.2, ← hy]; exact joO_up _ _
            · exact leO_refl _
          · unfold setK; rw [if_pos ⟨rfl, rfl⟩]; exact hn
        have hnd : (!decide (Kc i s = some y)) = true := by simp [hn]
        rw [hnd]
        clear HL1 HLR HUP HPR hn hnd hy
        obtain ⟨D3, hown3, hrep3⟩ := HK3.out
        obtain ⟨z, hrun, hzat, _⟩ := hown3.drew.lookup_int keyedK mapT Try.underlying2 (zeroI _) (keyOf_sp (wf64n (n := i) (by omega)) (wf64n (n := s) (by omega)))
        have hyz : z = y := by
          have h1 := hrep3.val i s y (by simp [setK]) (.lit (.int .i64 0))
          rw [hzat] at h1
          injection h1 with h1
          injection h1
        subst hyz
        obtain ⟨hy1, hy2⟩ := hrep3.wf i s z (by simp [setK])
        clear hzat hown3 hrep3
        have hdr : ∀ w : World, Below w.heap.size w w.drew := fun w => (Below.refl _ _).drew
        have HR3 : Hid (Row w3 g 0 code) := HR.out.below hbw3 hgB
        obtain ⟨c41, _⟩ := HCL3.out 41 _ (lrnC_at _ _ _ _ _).1
        obtain ⟨s0, _⟩ := CS3.out 0 _ rfl
        obtain ⟨s1, _⟩ := CS3.out 1 _ rfl
        have hgc : g ≠ c := by omega
        go_upto_region 4 with fail
        apply meetP
        case h =>
          intro hp
          go_region_law (go_simp; go_at_call 112; refine (passOn_at g cap L a b c code hok i hil s hs z hy1 hy2 _ (HR3.out.on (hdr w3)) (HCL3.out.on (hdr w3)) n3 hgc La HKC3.out.drew).mono ?_; rintro e w4 ⟨rfl, hk4, hg4⟩; dsimp only)
          all_goals (revert w4; exact hp)
        intro w4 hk4 hg4
        have HG4 : w3.grownBy w4 (some c) := ⟨hg4.os, hg4.tape, hg4.output, hg4.size, hg4.block⟩
        have HKA4 : Hid (KM w4 a (setK Kc i s z)) := HK3.out.kept HG4 (by simp; omega)
        have HKC4 : Hid (KM w4 c (passK code i s z La)) := hk4
        have HCL4 : Hid (Cells w4 L (lrnC (.slice (some ⟨g, 0, none⟩) code.length cap) (ldB code code.length) a b c)) := HCL3.out.gb HG4 n3 (by omega)
        have hbw4 : Below B w w4 := gbB hbw3 HG4 B4 (by omega)
        have HRG4 : Hid (w4.ranges Try.prog 102 (plainElem Try.prog 2) b w.heap.size 400 D (fun z => left z && !z.sameKey (spK i s)) cnt1) := HRG3.out.kept HG4 (by simp; omega) (by simp; omega)
        have hrgE4 := HRG4.out.left_eq
        clear hk4 hg4 HK3 HKC3 HCL3 hbw3 HRG3 hrgE3 hrun c41 s0 s1 CS3
        go_wp2
        go_roundw
        case rel => exact ⟨_, _, _, _, HRG4.out, HLF1.out, HKA4.out, HKC4.out, HL2.out, HUP3.out, .inl HPR3.out, HCL4.out, hbw4⟩
        case measure => rw [hrgE4, hrgE]; omega
end Pg
end Go.Proofs.Ytffkkhaiedhaiaa

/- Contracts: all that is known of code. -/
namespace Go.Proofs.Ytffkkhaiedhaiaa
namespace Pg
open Go.ChangeShapes Go.WideShapes Go.ChangeAt Go.RowKit St Wd

def zeroLC : List Value := .slice none 0 0 :: (chi 40 (fun _ => false) ++ [.map none, .map none, .map none])
theorem zeroL : (Try.prog.info? 133).map (fun i => (i.zero, i.size)) = some (some (.agg zeroLC.toArray), 44) := by kernel_rfl
theorem infoL : (Try.prog.info? 133).map (·.size) = some 44 := by kernel_rfl
theorem builtL (g n cap : Nat) (P : Nat → Bool) (a b c : Nat) : Try.prog.built 133 [(0, .slice (some ⟨g, 0, none⟩) n cap), (1, .agg (chi 40 P).toArray), (2, .map (some a)), (3, .map (some b)), (4, .map (some c))] = some (lrnC (.slice (some ⟨g, 0, none⟩) n cap) P a b c).toArray := by
  kernel_rfl
theorem lrnC_one (g n cap : Nat) (P : Nat → Bool) (a b c : Nat) : ∀ v ∈ lrnC (.slice (some ⟨g, 0, none⟩) n cap) P a b c, v.oneCell' = true := by
  intro v hv
  unfold lrnC at hv
  rcases List.mem_cons.1 hv with rfl | hv
  · rfl
  · rcases List.mem_append.1 hv with hv | hv
    · exact chi_one _ _ v hv
    · simp at hv; rcases hv with rfl | rfl | rfl <;> rfl
theorem wpList_alloc_lrn {w : World} {ops : Array Oper} {rest : List Oper} {o : Oper} {a : Act} {Q : Exit → Act → World → Prop} (hgd : o.guard = none) (ho : o.op = .alloc 133)
    (h : wpList Try.prog ops Q rest (a.put o.dst (.pointer (some ⟨w.heap.size, 0, none⟩))) (w.alloc (.cells zeroLC.toArray 133))) : wpList Try.prog ops Q (o :: rest) a w :=
  wpList_plain hgd fun K hK => by
    have hz1 := (zero_of_info zeroL).1 w
    unfold Oper.wp execOp
    simp [ho, Instr.alloc, hz1, Sem.run_bind, newVar, go_sem]
    exact hK _ _ h
theorem wpList_build_lrn {w : World} {ops : Array Oper} {rest : List Oper} {o : Oper} {a : Act} {Q : Exit → Act → World → Prop} (hgd : o.guard = none) (x0 x1 x2 x3 x4 : Operand) (ho : o.op = .build 133 #[(0, x0), (1, x1), (2, x2), (3, x3), (4, x4)])
    (g n cap : Nat) (P : Nat → Bool) (p q r : Nat) (e0 : a.eval x0 = .slice (some ⟨g, 0, none⟩) n cap) (e1 : a.eval x1 = .agg (chi 40 P).toArray) (e2 : a.eval x2 = .map (some p)) (e3 : a.eval x3 = .map (some q)) (e4 : a.eval x4 = .map (some r))
    (h : wpList Try.prog ops Q rest (a.put o.dst (.agg (lrnC (.slice (some ⟨g, 0, none⟩) n cap) P p q r).toArray)) w) : wpList Try.prog ops Q (o :: rest) a w := by
  have hb := builtL g n cap P p q r
  have hl : ((#[(0, x0), (1, x1), (2, x2), (3, x3), (4, x4)] : Array (Nat × Operand)).map fun (i, x) => (i, a.eval x)).toList = [(0, .slice (some ⟨g, 0, none⟩) n cap), (1, .agg (chi 40 P).toArray), (2, .map (some p)), (3, .map (some q)), (4, .map (some r))] := by simp [e0, e1, e2, e3, e4]
  refine wpList_build hgd 133 _ ho ?_ ?_
  · rw [hl, hb]; rfl
  · rw [hl, hb]; exact h
theorem made_KM (w : World) : KM (w.alloc (.map #[] 0)) w.heap.size noneK := ⟨.map [], own400 (World.ownsMap_made w _ _ _) (by simp [Maps.size_eq]), rep_nil⟩
/-- The spots of the first step, up to local k. -/
def firstK (k : Nat) : Kw := fun i s => if i = 0 ∧ s < k then some UnK else none
theorem firstK_step (k : Nat) : setK (firstK k) 0 k UnK = firstK (k + 1) := by
  funext i s
  unfold setK firstK
  by_cases e : i = 0 ∧ s = k
  · obtain ⟨rfl, rfl⟩ := e
    simp
  · rw [if_neg e]
    by_cases h0 : i = 0
    · have : ¬ s = k := fun h => e ⟨h0, h⟩
      have h2 : (s < k + 1) ↔ (s < k) := by omega
      simp only [h0, true_and, h2]
    · simp [h0]
open Classical in
noncomputable def bitK (C : Kw) : Nat := if C = noneK then 0 else 1
theorem bitK_le (C : Kw) : bitK C ≤ 1 := by unfold bitK; split <;> omega
/-- The learner on its way. -/
def LrI (code : List Tx.Ins) (g cap L a B : Nat) (w : World) (n : Nat) (wr : World) : Prop :=
  ∃ (b c : Nat) (K C : Kw), Cells wr L (lrnC (.slice (some ⟨g, 0, none⟩) code.length cap) (ldB code code.length) a b c) ∧ (B ≤ b ∧ B ≤ c) ∧ (L ≠ b ∧ L ≠ c ∧ a ≠ b ∧ a ≠ c ∧ b ≠ c) ∧ KM wr a K ∧ KM wr b C ∧ KM wr c noneK ∧ Lrn code K C noneK ∧
    1280 + bitK C ≤ 2 * hgK code.length K + n ∧ Below B w wr
set_option maxRecDepth 100000 in
set_option maxHeartbeats 4000000 in
theorem knownIn_at (g cap : Nat) (code : List Tx.Ins) (hok : Lay.codeOk code = true) (w : World) (hrow : Row w g 0 code) :
    Calls Try.prog 62 #[.slice (some ⟨g, 0, none⟩) code.length cap] w fun e w' => ∃ a K, e = .returned (.map (some a)) ∧ KM w' a K ∧ LeastK code K ∧ w.heap.size ≤ a ∧ Below w.heap.size w w' := by
  have HR : Hid (Row w g 0 code) := hrow
  have lg : g < w.heap.size := cell_lt (hrow 0 _ (ins_is (Lay.ok_len hok).1)).1
  clear hrow
  go_enter Try.func62, Try.ntmps62
  go_wp2_with fail
  refine (leadersIn_at g cap code hok w HR.out).mono ?_
  rintro e w1 ⟨rfl, hb1⟩
  generalize hP : ldB code code.length = P at *
  have HP : Hid (ldB code code.length = P) := hP
  clear hP
  have hmm := @run_makeMap Try.prog
  obtain ⟨M3, hM3⟩ : ∃ M3, M3 = ((w1.alloc (.map #[] 0)).alloc (.map #[] 0)).alloc (.map #[] 0) := ⟨_, rfl⟩
  have hk1 : KM M3 w1.heap.size noneK := by
    rw [hM3]
    exact ((made_KM w1).on ((Below.refl _ _).alloc (Nat.le_refl _) _)).on ((Below.refl _ _).alloc (Nat.le_refl _) _)
  have hk2 : KM M3 (w1.heap.size + 1) noneK := by
    rw [hM3]
    have := (made_KM (w1.alloc (.map #[] 0))).on ((Below.refl _ _).alloc (Nat.le_refl _) (.map #[] 0))
    simpa using this
  have hk3 : KM M3 (w1.heap.size + 1 + 1) noneK := by
    rw [hM3]
    have := made_KM ((w1.alloc (.map #[] 0)).alloc (.map #[] 0))
    simpa using this
  have hs3 : M3.heap.size = w1.heap.size + 1 + 1 + 1 := by rw [hM3]; simp
  have hb3 : Below w1.heap.size w1 M3 := by rw [hM3]; exact (((Below.refl _ _).alloc (Nat.le_refl _) _).alloc (by simp) _).alloc (by simp; omega) _
  have HM3 : Hid (M3 = ((w1.alloc (.map #[] 0)).alloc (.map #[] 0)).alloc (.map #[] 0)) := hM3
  have HZ : Hid (Cells ((((w1.alloc (.map #[] 0)).alloc (.map #[] 0)).alloc (.map #[] 0)).alloc (.cells zeroLC.toArray 133)) (w1.heap.size + 1 + 1 + 1) zeroLC) := by
    rw [← hM3]
    exact Cells.new M3 _ hs3.symm _ _
  have HZ2 : Hid (Cells (M3.alloc (.cells zeroLC.toArray 133)) (w1.heap.size + 1 + 1 + 1) zeroLC) := Cells.new M3 _ hs3.symm _ _
  clear hM3
  have HS3 : Hid (M3.heap.size = w1.heap.size + 1 + 1 + 1) := hs3
  clear hs3
  go_upto_region 2 with (first
    | (with_reducible refine wpList_alloc_lrn rfl rfl ?_)
    | (with_reducible refine wpList_build_lrn rfl _ _ _ _ _ rfl g code.length cap P w1.heap.size (w1.heap.size + 1) (w1.heap.size + 1 + 1) (by simp [Act.eval]) (by simp [Act.eval]) (by simp [Act.eval]) (by simp [Act.eval]) (by simp [Act.eval]) ?_)
    | (with_reducible refine wpList_store_mid rfl 133 (.tmp 3) (.tmp 11) rfl (w1.heap.size + 1 + 1 + 1) 0 (lrnC (.slice (some ⟨g, 0, none⟩) code.length cap) P w1.heap.size (w1.heap.size + 1) (w1.heap.size + 1 + 1)).toArray (by simp [Act.eval, Act.put]) (by simp [Act.eval, Act.put]) (HZ.out.there (by simp [lrnC_len, zeroLC, chi_len])) (by rw [infoL]; simp [lrnC_len]) (all_oneCell_toArray (lrnC_one _ _ _ _ _ _ _)) ?_))
  rw [← HM3.out, HS3.out]
  obtain ⟨X, hX⟩ : ∃ X, X = (M3.alloc (.cells zeroLC.toArray 133)).setCells (w1.heap.size + 1 + 1 + 1) 0 (lrnC (.slice (some ⟨g, 0, none⟩) code.length cap) P w1.heap.size (w1.heap.size + 1) (w1.heap.size + 1 + 1)) := ⟨_, rfl⟩
  rw [← hX]
  have hbX : Below M3.heap.size M3 X := by rw [hX]; exact below_setCells (by rw [HS3.out]; omega) _ _ ((Below.refl _ _).alloc (Nat.le_refl _) _)
  have HCX : Hid (Cells X (w1.heap.size + 1 + 1 + 1) (lrnC (.slice (some ⟨g, 0, none⟩) code.length cap) P w1.heap.size (w1.heap.size + 1) (w1.heap.size + 1 + 1))) := by
    show Cells _ _ _
    rw [hX]
    exact HZ2.out.put (by rw [lrnC_len]; simp [zeroLC, chi_len])
  have HK1 : Hid (KM X w1.heap.size noneK) := hk1.on hbX
  have HK2 : Hid (KM X (w1.heap.size + 1) noneK) := hk2.on hbX
  have HK3 : Hid (KM X (w1.heap.size + 1 + 1) noneK) := hk3.on hbX
  have hbw : Below w.heap.size w X := below_over hb1 (below_over hb3 hbX)
  have hw1 : w.heap.size ≤ w1.heap.size := hb1.size
  have HSX : Hid (X.heap.size = w1.heap.size + 1 + 1 + 1 + 1) := by show _ = _; rw [hX, size_setCells]; simp [HS3.out]
  clear hX hbX hk1 hk2 hk3 HZ HZ2 HM3 HS3 hb3 hb1 hmm
  have HB1 : Hid (Below w1.heap.size X X) := Below.refl _ _
  generalize hA : w1.heap.size = A at *
  clear hA
  go_frame
  go_wp2
  go_loopw [12] (fun i wr => ∃ k : Nat, k ≤ 8 ∧ i = .int .i64 (k : Int) ∧ Hid (Cells wr (A + 1 + 1 + 1) (lrnC (.slice (some ⟨g, 0, none⟩) code.length cap) P A (A + 1) (A + 1 + 1))) ∧ Hid (KM wr A noneK) ∧ Hid (KM wr (A + 1) (firstK k)) ∧ Hid (KM wr (A + 1 + 1) noneK) ∧ Below w.heap.size w wr) (fun i _ => 8 - (intOf i).toNat)
  case atStart =>
    refine ⟨0, by omega, rfl, HCX.out, HK1.out, ?_, HK3.out, hbw⟩
    have : firstK 0 = noneK := by funext i s; simp [firstK, noneK]
    show KM _ _ _
    rw [this]
    exact HK2.out
  case round =>
    clear HCX HK1 HK2 HK3 hbw HSX HB1
    obtain ⟨k, hk, rfl, hC, hK1, hK2, hK3, hb⟩ := hrel
    by_cases hlt : k < 8
    · have hki : (k : Int) < 8 := by omega
      obtain ⟨c42, _⟩ := hC.out 42 _ (lrnC_at _ _ _ _ _).2.1
      obtain ⟨D, hown, hrep⟩ := hK2.out
      have HK : Hid (keyOf Try.prog 102 (spV ((0 : Nat) : Int) k) = some (spK ((0 : Nat) : Int) k)) := keyOf_sp (wf64n (by omega)) (wf64n (by omega))
      have HU : Hid (plainElem (H := Unit) Try.prog 2 (.int .i64 1099511627776) = some (.lit (.int .i64 1099511627776), [])) := plainE (by omega) (by omega)
      have hLw : A + 1 + 1 + 1 < wr.heap.size := cell_lt c42
      go_wp2_with (first
        | (at_mapUpdate; refine wpList_mapUpdate_own _ rfl _ _ _ 98 rfl 102 2 keyedK mapT _ (A + 1) 400 D rfl hown (by unfold maxLen; omega) _ _ _ rfl rfl HK.out _ [] HU.out ?_; intro w2 ho2 hg2))
      have HK2' : Hid (KM w2 (A + 1) (firstK (k + 1))) := by
        show KM _ _ _
        rw [← firstK_step]
        exact KM.put hrep (hown.tidy keyedK) (by omega) hlt (by decide) (by decide) ho2
      have HC2 : Hid (Cells w2 (A + 1 + 1 + 1) (lrnC (.slice (some ⟨g, 0, none⟩) code.length cap) P A (A + 1) (A + 1 + 1))) := hC.out.gb hg2 (by omega) hLw
      have HK1' : Hid (KM w2 A noneK) := hK1.out.kept hg2 (by simp)
      have HK3' : Hid (KM w2 (A + 1 + 1) noneK) := hK3.out.kept hg2 (by simp)
      have hb2 : Below w.heap.size w w2 := gbB hb hg2 (by omega) (by omega)
      clear hown hrep ho2 hg2 hC hK1 hK2 hK3 hb c42 hLw
      go_roundw
      case rel => exact ⟨k + 1, by omega, by go_num, HC2.out, HK1'.out, HK2'.out, HK3'.out, hb2⟩
      case measure => simp [intOf]; omega
    · obtain rfl : k = 8 := by omega
      have hLwr : A + 1 + 1 + 1 < wr.heap.size := cell_lt (hC.out 0 _ rfl).1
      have hI : Hid (LrI code g cap (A + 1 + 1 + 1) A w.heap.size w 1281 wr) := by
        refine ⟨A + 1, A + 1 + 1, noneK, firstK 8, ?_, ⟨by omega, by omega⟩, ⟨by omega, by omega, by omega, by omega, by omega⟩, hK1.out, hK2.out, hK3.out, Lrn.start (Lay.ok_len hok).1, ?_, hb⟩
        · rw [HP.out]; exact hC.out
        · have := bitK_le (firstK 8); omega
      clear hC hK1 hK2 hK3 hb
      go_upto_region 7 with fail
      go_loopg [] 1281 (fun n wr => Hid (LrI code g cap (A + 1 + 1 + 1) A w.heap.size w n wr))
      case atStart => exact hI
      case round =>
        clear hI
        obtain ⟨b, c, K, C, hC, ⟨hB1, hB2⟩, hne, hKa, hKb, hKc, hlr, hmeas, hb⟩ := hrel.out
        clear hrel
        obtain ⟨c42, _⟩ := hC 42 _ (lrnC_at _ _ _ _ _).2.1
        have HC : Hid (Cells wr (A + 1 + 1 + 1) (lrnC (.slice (some ⟨g, 0, none⟩) code.length cap) (ldB code code.length) A b c)) := hC
        have HKa : Hid (KM wr A K) := hKa
        have HKb : Hid (KM wr b C) := hKb
        have HKc : Hid (KM wr c noneK) := hKc
        have HLR : Hid (Lrn code K C noneK) := hlr
        have HNE : Hid (A + 1 + 1 + 1 ≠ b ∧ A + 1 + 1 + 1 ≠ c ∧ A ≠ b ∧ A ≠ c ∧ b ≠ c) := hne
        have HME : Hid (1280 + bitK C ≤ 2 * hgK code.length K + gk) := hmeas
        obtain ⟨D, hown, hrep⟩ := hKb
        have hsz := hrep.size
        have hin := hrep.inn
        clear hC hKa hKc hlr hne hmeas hrep
        by_cases h0 : cntK C = 0
        · have hCn : C = noneK := none_ext hin h0
          subst hCn
          have hz : ((Maps.size D : Nat) : Int) = 0 := by omega
          have HLE : Hid (LeastK code K) := HLR.out.ends
          obtain ⟨c41, _⟩ := HC.out 41 _ (lrnC_at _ _ _ _ _).1
          clear hsz h0 hin HC HLR HKb HKc HME
          go_wp2_with (first
            | (at_len; refine wpList_len_own _ rfl _ 98 rfl 102 2 mapT _ b 400 D rfl hown ?_; rw [hz]))
          go_ret
          exact ⟨A, K, rfl, HKa.out, HLE.out, hw1, hb⟩
        · have hz : (0 : Int) < ((Maps.size D : Nat) : Int) := by omega
          have hCn : C ≠ noneK := fun e => by rw [e] at h0; exact h0 (by have := rep_nil.size; simpa [Maps.size_eq] using this.symm)
          have HBT : Hid (bitK C = 1) := by show _ = _; unfold bitK; rw [if_neg hCn]
          clear hsz h0 hin hCn
          generalize hq : ((Maps.size D : Nat) : Int) = sz at *
          have HQ : Hid (((Maps.size D : Nat) : Int) = sz) := hq
          clear hq
          go_wp2_with (first
            | (at_len; refine wpList_len_own _ rfl _ 98 rfl 102 2 mapT _ b 400 D rfl hown ?_; rw [HQ.out]))
          obtain ⟨e1, e2, e3, e4, e5⟩ := HNE.out
          refine (goOn_at g cap (A + 1 + 1 + 1) A b c code hok w.heap.size wr (HR.out.below hb lg) lg ⟨by omega, hw1, hB1, hB2⟩ ⟨by omega, e1, e2, e3, e4, e5⟩ HC.out K C HKa.out HKb.out HKc.out HLR.out).mono ?_
          rintro e w2 ⟨rfl, K', M, f1, f2, f3, f4, f5, f6, f7, f8⟩
          have hI : Hid (LrI code g cap (A + 1 + 1 + 1) A w.heap.size w (gk - 1) w2) := by
            refine ⟨c, b, K', M, f1, ⟨hB2, hB1⟩, ⟨e2, e1, e4, e3, fun h => e5 h.symm⟩, f2, f3, f4, f5, ?_, hb.trans f8⟩
            have h1 := HME.out
            rw [HBT.out] at h1
            have h2 := hgK_le (n := code.length) f6
            rcases f7 with f7 | f7
            · have := bitK_le M; omega
            · have : bitK M = 0 := by unfold bitK; rw [if_pos f7]
              omega
          have hgk : gk - 1 < gk := by
            have h1 := HME.out
            rw [HBT.out] at h1
            have h2 := hgK_bd code.length K
            have h3 := (Lay.ok_len hok).2
            omega
          clear f1 f2 f3 f4 f5 f6 f7 f8 HME HBT HC HKa HKb HKc HLR hown
          go_wp2
          go_roundg (gk - 1)
          case rel => exact hI
          case measure => exact hgk
end Pg
end Go.Proofs.Ytffkkhaiedhaiaa

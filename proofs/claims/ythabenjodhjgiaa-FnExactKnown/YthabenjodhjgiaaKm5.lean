/- What is passed on, plainly; contracts: a round of the learner. -/
import Derived.Test.YthabenjodhjgiaaKm4
namespace Go.Proofs.Ythabenjodhjgiaa
namespace Pg
open Go.ChangeShapes Go.WideShapes Go.ChangeAt Go.RowKit St Wd

theorem tellK_up (code : List Tx.Ins) (i : Nat) (m : Kw) (j : Nat) (x : Int) (t s : Nat) : leO (m t s) (tellK code i m j x t s) := by
  unfold tellK
  split
  · exact joO_up _ _
  · exact leO_refl _
theorem fold_up (code : List Tx.Ins) (i : Nat) : ∀ (l : List (Int × Int)) (m : Kw) (t s : Nat), leO (m t s) (l.foldl (fun m p => tellK code i m p.1.toNat p.2) m t s)
  | [], _, _, _ => leO_refl _
  | p :: l, m, t, s => leO_trans (tellK_up code i m p.1.toNat p.2 t s) (fold_up code i l _ t s)
theorem fold_in (code : List Tx.Ins) (i : Nat) : ∀ (l : List (Int × Int)) (m : Kw) (p : Int × Int), p ∈ l → ∀ t, nxB code i t = true → leO (some p.2) (l.foldl (fun m p => tellK code i m p.1.toNat p.2) m t p.1.toNat)
  | [], _, p, hp, _, _ => by simp at hp
  | q :: l, m, p, hp, t, ht => by
    rcases List.mem_cons.1 hp with rfl | hp
    · refine leO_trans ?_ (fold_up code i l _ t _)
      show leO _ (tellK code i m p.1.toNat p.2 t p.1.toNat)
      unfold tellK
      rw [if_pos ⟨rfl, ht⟩]
      exact joO_in _ _
    · exact fold_in code i l _ p hp t ht
theorem fold_under (code : List Tx.Ins) (i : Nat) : ∀ (l : List (Int × Int)) (m : Kw), UnderK code m → (∀ p ∈ l, ∀ K', SolK code K' → ∀ t, nxB code i t = true → leO (some p.2) (K' t p.1.toNat)) → UnderK code (l.foldl (fun m p => tellK code i m p.1.toNat p.2) m)
  | [], _, h, _ => h
  | p :: l, m, h, hp => by
    refine fold_under code i l _ (fun K' hK t ht s hs => ?_) (fun q hq => hp q (List.mem_cons_of_mem _ hq))
    show leO (tellK code i m p.1.toNat p.2 t s) _
    unfold tellK
    split
    · rename_i e
      rw [e.1]
      refine joO_least ?_ (hp p List.mem_cons_self K' hK t e.2)
      have := h K' hK t ht s hs
      rwa [e.1] at this
    · exact h K' hK t ht s hs
theorem fold_inK {code : List Tx.Ins} (i : Nat) : ∀ (l : List (Int × Int)) (m : Kw), inK code m → (∀ p ∈ l, p.1.toNat < 8) → inK code (l.foldl (fun m p => tellK code i m p.1.toNat p.2) m)
  | [], _, h, _ => h
  | p :: l, m, h, hp => by
    refine fold_inK i l _ (fun t s hts => ?_) (fun q hq => hp q (List.mem_cons_of_mem _ hq))
    change tellK code i m p.1.toNat p.2 t s ≠ none at hts
    unfold tellK at hts
    split at hts
    · rename_i e
      have h2 := e.2
      unfold nxB at h2
      simp only [Bool.and_eq_true, decide_eq_true_eq] at h2
      exact ⟨h2.2, by rw [e.1]; exact hp p List.mem_cons_self⟩
    · exact h t s hts
theorem tells_small {code : List Tx.Ins} (hok : Lay.codeOk code = true) {i s : Nat} (hi : i < code.length) (hs : s < 8) (v : Int) : ∀ p ∈ tellsF code i s v, 0 ≤ p.1 ∧ p.1 < 8 := by
  intro p hp
  unfold tellsF at hp
  split at hp
  · simp at hp; subst hp; dsimp only; omega
  · rename_i h3
    have := store_in hok hi (.inl (by simpa using h3))
    simp only [List.mem_append] at hp
    rcases hp with (hp | hp) | hp
    · split at hp
      · simp at hp; subst hp; dsimp only; omega
      · simp at hp
    · split at hp
      · simp at hp; subst hp; exact this
      · simp at hp
    · split at hp
      · simp at hp; subst hp; exact this
      · simp at hp
/-- What is left of what comes. -/
def resK (C : Kw) (left : Nat → Nat → Bool) : Kw := fun i s => if left i s then C i s else none
/-- One that comes is learnt; where it is news it is passed on. -/
theorem Lrn.one {code : List Tx.Ins} (hok : Lay.codeOk code = true) {K C L : Kw} (h : Lrn code K C L) {i s : Nat} {v y : Int} (hC : C i s = some v) (hy : joO (K i s) v = some y) :
    Lrn code (setK K i s y) (fun a b => if a = i ∧ b = s then none else C a b) (if K i s = some y then L else passK code i s y L) := by
  obtain ⟨hi, hs⟩ := h.ci i s (by rw [hC]; simp)
  have hyU : ∀ K', SolK code K' → leO (some y) (K' i s) := fun K' hK => by
    rw [← hy]
    exact joO_least (h.ku K' hK i hi s hs) (by have := h.cu K' hK i hi s hs; rwa [hC] at this)
  have hsm := tells_small hok hi hs y
  split
  · rename_i e
    exact h.learn hC hy h.li h.lu (fun _ _ => leO_refl _) (fun hn => absurd e hn)
  · refine h.learn hC hy (fold_inK i _ _ h.li fun p hp => by have := hsm p hp; omega) (fold_under code i _ _ h.lu fun p hp K' hK t ht => ?_) (fold_up code i _ _) (fun _ j hj x hx t ht => ?_)
    · have := hsm p hp
      refine under_tells hK hi hs (hyU K' hK) (by omega) (x := p.2) ?_ ht
      have e : ((p.1.toNat : Nat) : Int) = p.1 := by omega
      rw [e]
      exact hp
    · have := fold_in code i (tellsF code i s y) L ((j : Int), x) hx t ht
      unfold passK
      simpa using this
/-- What a round has come to. -/
def GoI (code : List Tx.Ins) (g cap L a b c r B : Nat) (w : World) (K C : Kw) (D : DataW Unit) (wr : World) : Prop :=
  ∃ (Kc La : Kw) (left : Lit → Bool) (cnt : Nat), wr.ranges Try.prog 51 (plainElem Try.prog 2) b r 400 D left cnt ∧ (∀ k, left k = true → Maps.has D k = true) ∧ KM wr a Kc ∧ KM wr c La ∧
    Lrn code Kc (resK C fun i s => left (spK i s)) La ∧ (∀ i s, leO (K i s) (Kc i s)) ∧ (hgK code.length K < hgK code.length Kc ∨ La = noneK) ∧
    Cells wr L (lrnC (.slice (some ⟨g, 0, none⟩) code.length cap) (ldB code code.length) a b c) ∧ Below B w wr
open Go.MapKept Go.WideElems Go.ChangeMaps in
theorem clearK (w : World) (b : Nat) (m : Kw) (h : KM w b m) : ∃ w', (∀ ty, (Builtin.clear_ #[47] ty #[.map (some b)]).run Try.prog w = .ok (.tuple #[]) w') ∧ KM w' b noneK ∧ w.grownBy w' (some b) := by
  obtain ⟨D, ⟨es, clock, hb, F, hs, hD⟩, _⟩ := h
  refine ⟨setBlock w b (.map #[] clock), ?_, ⟨.map [], ⟨#[], clock, heap_setBlock_same hb _, ⟨by simp, ?_, by simp⟩, by simp, by simp⟩, rep_nil⟩, ⟨rfl, rfl, rfl, by simp [setBlock], fun i _ hi => heap_setBlock_other hb _ (fun e => hi (by rw [e]))⟩⟩
  · intro ty
    simp [Builtin.clear_, run_underlying mapT, MapKept.run_getObj_map hb, MapKept.run_setObj_map _ hb, Result.andThen, setBlock]
  · exact (stamped_iff _ _).2 ⟨by simp, by simp, by simp⟩
end Pg
end Go.Proofs.Ythabenjodhjgiaa

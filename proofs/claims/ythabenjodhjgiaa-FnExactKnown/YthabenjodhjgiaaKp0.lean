/- The specification's sweeps over what is known, plainly: they end in the same. -/
import Derived.Test.YthabenjodhjgiaaKn0
namespace Go.Proofs.Ythabenjodhjgiaa
namespace Pg
open Go.ChangeShapes Go.WideShapes Go.ChangeAt Go.RowKit St Wd

/-- The word behind a store, as a sweep tells it. -/
def stV (code : List Tx.Ins) (K : Kw) (i : Nat) : Int :=
  if 0 < i ∧ ldB code code.length i = false ∧ K (i - 1) 0 ≠ none then
    (if (insF code (i - 1)).1 = 1 then (insF code (i - 1)).2.1 else if (insF code (i - 1)).1 = 2 then (K (i - 1) (insF code (i - 1)).2.1.toNat).getD 0 else UnK)
  else UnK
def outK (code : List Tx.Ins) (K : Kw) (i j : Nat) : Int := if (insF code i).1 = 3 ∧ (insF code i).2.1 = (j : Int) then stV code K i else (K i j).getD 0
/-- What comes is put with what is there, up to local m. -/
def mrgK (K : Kw) (t : Nat) (out : Nat → Int) (m : Nat) : Kw := fun a b => if a = t ∧ b < m then joO (K a b) (out b) else K a b
theorem fall_only {code : List Tx.Ins} (hok : Lay.codeOk code = true) {i t : Nat} (hi : i < code.length) (h : nxB code i t = true) (ht : ldB code code.length t = false) : i + 1 = t := by
  have hj := fun h => jump_in hok hi h
  unfold nxB waysF at h
  simp only [Bool.and_eq_true, decide_eq_true_eq] at h
  obtain ⟨h1, h2⟩ := h
  have hjump : (insF code i).1 = 11 ∨ (insF code i).1 = 12 → (insF code i).2.1.toNat = t → False := fun hj' e => by
    have hA := hj hj'
    have hjb : Lay.jumpB (insF code i).1 = true := by unfold Lay.jumpB; simpa using hj'
    have e2 : (insF code i).2.1 = (t : Int) := by omega
    have : ldB code (i + 1) t = true := by
      unfold ldB ld1
      simp [hjb, e2, h2]
    rw [ldB_mono code (show i + 1 ≤ code.length by omega) this] at ht
    simp at ht
  by_cases h20 : (insF code i).1 = 20
  · simp [h20] at h1
  · by_cases h11 : (insF code i).1 = 11
    · simp [h11] at h1
      exact absurd h1.symm (fun e => hjump (.inl h11) e)
    · by_cases h12 : (insF code i).1 = 12
      · simp [h12] at h1
        rcases h1 with h1 | h1
        · exact absurd h1.symm (fun e => hjump (.inr h12) e)
        · exact h1.symm
      · simp [h20, h11, h12] at h1
        exact h1.symm
theorem load_falls {code : List Tx.Ins} {i : Nat} (hi : i + 1 < code.length) (h : (insF code i).1 = 2) : nxB code i (i + 1) = true := by
  unfold nxB waysF
  simp [h, hi]
/-- What holds between two steps of a sweep. -/
structure InvS (code : List Tx.Ins) (K : Kw) : Prop where
  rows : ∀ i, (∀ j, j < 8 → K i j ≠ none) ∨ ∀ j, K i j = none
  inn : inK code K
  first : ∀ j, j < 8 → K 0 j = some UnK
  under : UnderK code K
  lag : ∀ i, i + 1 < code.length → ldB code code.length (i + 1) = false → K (i + 1) 0 ≠ none → K i 0 ≠ none ∧ ((insF code i).1 = 2 → ∀ j, leO (K (i + 1) j) (K i j))
theorem InvS.at {code : List Tx.Ins} {K : Kw} (h : InvS code K) {i : Nat} (hi : K i 0 ≠ none) {j : Nat} (hj : j < 8) : K i j = some ((K i j).getD 0) := by
  rcases h.rows i with h1 | h1
  · cases e : K i j with
    | none => exact absurd e (h1 j hj)
    | some v => rfl
  · exact absurd (h1 0) hi
theorem op3_A {code : List Tx.Ins} (hok : Lay.codeOk code = true) {k : Nat} (hk : k < code.length) (h : (insF code k).1 = 3 ∨ (insF code k).1 = 2) : 0 ≤ (insF code k).2.1 ∧ (insF code k).2.1 < 8 := by
  have := Lay.ok_at hok (ins_is hk)
  unfold Tx.okI at this
  rw [if_neg (by omega)] at this
  unfold Tx.limA at this
  simp only [Bool.and_eq_true, decide_eq_true_eq] at this
  rw [if_pos (by omega)] at this
  omega
theorem ld_first (code : List Tx.Ins) : ∀ n, ldB code n 0 = true
  | 0 => by simp [ldB]
  | n + 1 => by simp [ldB, ld_first code n]
/-- What goes out is under all that hold. -/
theorem out_under {code : List Tx.Ins} (hok : Lay.codeOk code = true) {K : Kw} (h : InvS code K) {i : Nat} (hi : i < code.length) (hr : K i 0 ≠ none) {j : Nat} (hj : j < 8) {t : Nat} (ht : nxB code i t = true) {K' : Kw} (hK : SolK code K') :
    leO (some (outK code K i j)) (K' t j) := by
  have hv : ∀ s, s < 8 → leO (some ((K i s).getD 0)) (K' i s) := fun s hs => by rw [← h.at hr hs]; exact h.under K' hK i hi s hs
  unfold outK
  split
  · rename_i hA
    have hin : ∀ c, (storedF code i).1 = 1 → (storedF code i).2.1 = c → leO (some c) (K' t j) := fun c h1 h2 => by
      refine under_tells hK hi hj (hv j hj) hj (x := c) ?_ ht
      unfold tellsF
      rw [if_neg (by simp [hA.1])]
      simp only [List.mem_append]
      exact .inr (by rw [if_pos ⟨h1, hA.2⟩, h2, hA.2]; simp)
    unfold stV
    split
    · rename_i hc
      obtain ⟨h0, hl, hp⟩ := hc
      have hst : (insF code (i - 1)).1 = 1 ∨ (insF code (i - 1)).1 = 2 → storedF code i = insF code (i - 1) := fun ho => by unfold storedF; simp [hl, ho]
      split
      · rename_i h1
        exact hin _ (by rw [hst (.inl h1)]; exact h1) (by rw [hst (.inl h1)])
      · split
        · rename_i h1 h2
          obtain ⟨p, rfl⟩ : ∃ p, i = p + 1 := ⟨i - 1, by omega⟩
          simp only [Nat.add_sub_cancel] at hp h1 h2 hst ⊢
          have hx := op3_A hok (k := p) (by omega) (.inr h2)
          have hx8 : (insF code p).2.1.toNat < 8 := by omega
          have e : (((insF code p).2.1.toNat : Nat) : Int) = (insF code p).2.1 := by omega
          have g1 : leO (some ((K p (insF code p).2.1.toNat).getD 0)) (K' p (insF code p).2.1.toNat) := by rw [← h.at hp hx8]; exact h.under K' hK p (by omega) _ hx8
          have g2 : leO (some ((K p (insF code p).2.1.toNat).getD 0)) (K' (p + 1) (insF code p).2.1.toNat) := by
            refine under_tells hK (show p < code.length by omega) hx8 g1 hx8 ?_ (load_falls hi h2)
            unfold tellsF
            simp [h2]
          refine under_tells hK hi hx8 g2 hj ?_ ht
          unfold tellsF
          rw [if_neg (by simp [hA.1])]
          simp only [List.mem_append]
          exact .inl (.inr (by rw [hst (.inr h2), if_pos ⟨h2, e.symm⟩, hA.2]; simp))
        · rename_i h1 h2
          have : storedF code i = (1, UnK, 0) := by unfold storedF; simp [hl, h1, h2]
          exact hin _ (by rw [this]) (by rw [this])
    · rename_i hc
      have : storedF code i = (1, UnK, 0) := by
        unfold storedF
        split
        · rfl
        · rename_i hl
          simp only [Bool.not_eq_true] at hl
          exfalso
          have h0 : 0 < i := by
            rcases Nat.eq_zero_or_pos i with e | e
            · rw [e, ld_first] at hl; simp at hl
            · exact e
          obtain ⟨p, rfl⟩ : ∃ p, i = p + 1 := ⟨i - 1, by omega⟩
          exact hc ⟨h0, hl, (h.lag p hi hl hr).1⟩
      exact hin _ (by rw [this]) (by rw [this])
  · rename_i hA
    refine under_tells hK hi hj (hv j hj) hj ?_ ht
    unfold tellsF
    split
    · simp
    · rename_i h3
      simp only [List.mem_append]
      refine .inl (.inl ?_)
      have h3' : (insF code i).1 = 3 := by simpa using h3
      have : (j : Int) ≠ (insF code i).2.1 := fun e => hA ⟨h3', e.symm⟩
      rw [if_pos this]
      simp
/-- One merging: all holds as before. -/
theorem InvS.merge {code : List Tx.Ins} (hok : Lay.codeOk code = true) {K0 K : Kw} (h0 : InvS code K0) (h : InvS code K) (hup : ∀ a b, leO (K0 a b) (K a b)) {i : Nat} (hi : i < code.length) (hr : K0 i 0 ≠ none) {t : Nat} (ht : nxB code i t = true) :
    InvS code (mrgK K t (outK code K0 i) 8) := by
  have htl : t < code.length := by unfold nxB at ht; simp only [Bool.and_eq_true, decide_eq_true_eq] at ht; exact ht.2
  have hri : K i 0 ≠ none := fun e => by
    have := hup i 0
    rw [e] at this
    rcases this with h1 | h1 | h1
    · exact hr h1
    · simp at h1
    · exact hr h1
  refine ⟨fun a => ?_, fun a b hab => ?_, fun j hj => ?_, fun K' hK a ha b hb => ?_, fun a ha hl hra => ?_⟩
  · by_cases e : a = t
    · left
      intro j hj
      unfold mrgK
      rw [if_pos ⟨e, hj⟩]
      obtain ⟨y, hy⟩ := joO_some (K a j) (outK code K0 i j)
      rw [hy]; simp
    · have : ∀ b, mrgK K t (outK code K0 i) 8 a b = K a b := fun b => by unfold mrgK; simp [e]
      simp only [this]
      exact h.rows a
  · unfold mrgK at hab
    split at hab
    · rename_i e; exact ⟨by omega, e.2⟩
    · exact h.inn a b hab
  · unfold mrgK
    rw [h.first j hj]
    split
    · unfold joO; dsimp only; split
      · rename_i e; rw [e]
      · rfl
    · rfl
  · unfold mrgK
    split
    · rename_i e
      rw [e.1]
      exact joO_least (h.under K' hK t htl b hb) (out_under hok h0 hi hr hb ht hK)
    · exact h.under K' hK a ha b hb
  · by_cases e : a + 1 = t
    · have hia : i = a := by have := fall_only hok hi ht (e ▸ hl); omega
      subst hia
      have hne : ¬ i = t := by omega
      have e1 : ∀ b, mrgK K t (outK code K0 i) 8 i b = K i b := fun b => by unfold mrgK; simp [hne]
      simp only [e1]
      refine ⟨hri, fun h2 j => ?_⟩
      unfold mrgK
      split
      · rename_i hj
        have ho : outK code K0 i j = (K0 i j).getD 0 := by unfold outK; rw [if_neg (by rw [h2]; simp)]
        rw [ho]
        refine joO_least ?_ ?_
        · by_cases hk : K (i + 1) 0 = none
          · rcases h.rows (i + 1) with h1 | h1
            · exact absurd hk (h1 0 (by omega))
            · rw [h1]; exact leO_none _
          · exact (h.lag i ha hl hk).2 h2 j
        · rw [← h0.at hr hj.2]; exact hup i j
      · rename_i hj
        have : ¬ j < 8 := fun h8 => hj ⟨e, h8⟩
        cases hk : K (i + 1) j with
        | none => exact leO_none _
        | some v => exact absurd (h.inn (i + 1) j (by rw [hk]; simp)).2 this
    · have e1 : ∀ b, mrgK K t (outK code K0 i) 8 (a + 1) b = K (a + 1) b := fun b => by unfold mrgK; simp [e]
      simp only [e1] at hra ⊢
      have hup2 : ∀ b, leO (K a b) (mrgK K t (outK code K0 i) 8 a b) := fun b => by
        unfold mrgK
        split
        · exact joO_up _ _
        · exact leO_refl _
      obtain ⟨g1, g2⟩ := h.lag a ha hl hra
      refine ⟨fun hn => ?_, fun h2 j => leO_trans (g2 h2 j) (hup2 j)⟩
      have := hup2 0
      rw [hn] at this
      rcases this with h1 | h1 | h1
      · exact g1 h1
      · simp at h1
      · exact g1 h1
def clsK (code : List Tx.Ins) (K : Kw) (i : Nat) : Prop := K i 0 ≠ none → ∀ t, nxB code i t = true → ∀ j, j < 8 → leO (some (outK code K i j)) (K t j)
/-- Where nothing more comes it is the least that holds. -/
theorem InvS.ends {code : List Tx.Ins} (hok : Lay.codeOk code = true) {K : Kw} (h : InvS code K) (hc : ∀ i, i < code.length → clsK code K i) : LeastK code K := by
  refine ⟨⟨h.first, fun i hi s hs v hv j x hj hx t ht => ?_⟩, h.under⟩
  have hr : K i 0 ≠ none := by
    rcases h.rows i with h1 | h1
    · exact h1 0 (by omega)
    · rw [h1] at hv; simp at hv
  have hcl : ∀ j : Nat, j < 8 → leO (some (outK code K i j)) (K t j) := fun j hj => hc i hi hr t ht j hj
  unfold tellsF at hx
  split at hx
  · rename_i h3
    simp only [List.mem_singleton, Prod.mk.injEq] at hx
    obtain ⟨e1, e2⟩ := hx
    have e1 : j = s := by omega
    subst e1 e2
    have := hcl j (by omega)
    unfold outK at this
    rw [if_neg (fun hh => h3 hh.1), hv] at this
    exact this
  · rename_i h3
    have h3' : (insF code i).1 = 3 := by simpa using h3
    have hA := op3_A hok hi (.inl h3')
    simp only [List.mem_append] at hx
    rcases hx with (hx | hx) | hx
    · split at hx
      · rename_i hne
        simp only [List.mem_singleton, Prod.mk.injEq] at hx
        obtain ⟨e1, e2⟩ := hx
        have e1 : j = s := by omega
        subst e1 e2
        have := hcl j (by omega)
        unfold outK at this
        rw [if_neg (fun hh => hne hh.2.symm), hv] at this
        exact this
      · simp at hx
    · split at hx
      · rename_i hst
        simp only [List.mem_singleton, Prod.mk.injEq] at hx
        obtain ⟨e1, e2⟩ := hx
        subst e2
        refine leO_trans ?_ (hcl j (by omega))
        unfold outK
        rw [if_pos ⟨h3', e1.symm⟩]
        unfold storedF at hst
        split at hst
        · simp at hst
        · rename_i hl
          simp only [Bool.not_eq_true] at hl
          have h0 : 0 < i := by
            rcases Nat.eq_zero_or_pos i with e | e
            · rw [e, ld_first] at hl; simp at hl
            · exact e
          obtain ⟨p, rfl⟩ : ∃ p, i = p + 1 := ⟨i - 1, by omega⟩
          simp only [Nat.add_sub_cancel] at hst
          obtain ⟨g1, g2⟩ := h.lag p hi hl hr
          split at hst
          · unfold stV
            simp only [Nat.add_sub_cancel]
            rw [if_pos ⟨h0, hl, g1⟩, if_neg (by rw [hst.1]; omega), if_pos hst.1]
            have es : (insF code p).2.1.toNat = s := by omega
            rw [es, ← h.at g1 hs, ← hv]
            exact g2 hst.1 s
          · simp at hst
      · simp at hx
    · split at hx
      · rename_i hst
        simp only [List.mem_singleton, Prod.mk.injEq] at hx
        obtain ⟨e1, e2⟩ := hx
        subst e2
        have := hcl j (by omega)
        unfold outK at this
        rw [if_pos ⟨h3', e1.symm⟩] at this
        have e : stV code K i = (storedF code i).2.1 := by
          unfold stV storedF
          cases hl : ldB code code.length i
          · have h0 : 0 < i := by
              rcases Nat.eq_zero_or_pos i with e | e
              · rw [e, ld_first] at hl; simp at hl
              · exact e
            obtain ⟨p, rfl⟩ : ∃ p, i = p + 1 := ⟨i - 1, by omega⟩
            have g1 := (h.lag p hi hl hr).1
            simp only [Nat.add_sub_cancel]
            rw [if_pos ⟨h0, by simp, g1⟩]
            unfold storedF at hst
            simp only [hl, Nat.add_sub_cancel] at hst
            by_cases o1 : (insF code p).1 = 1
            · simp [o1]
            · by_cases o2 : (insF code p).1 = 2
              · simp [o2] at hst
              · simp [o1, o2]
          · simp
        rw [e] at this
        exact this
      · simp at hx
end Pg
end Go.Proofs.Ythabenjodhjgiaa

/- Three that are worked out ahead, plainly. -/
import Derived.Test.YtffkkhaiedhaiaaJSu0
namespace Go.Proofs.Ytffkkhaiedhaiaa
namespace Pg
open Go.ChangeShapes Go.WideShapes Go.ChangeAt Go.RowKit St Wd

end Pg
end Go.Proofs.Ytffkkhaiedhaiaa

/- What is known ahead of each step: the least that holds along all ways, plainly. -/
namespace Go.Proofs.Ytffkkhaiedhaiaa
namespace Pg
open Go.ChangeShapes Go.WideShapes Go.ChangeAt Go.RowKit St Wd

abbrev UnK : Int := 1099511627776
abbrev Kw := Nat → Nat → Option Int
/-- No more than: nothing below all, a word below itself and below what is unknown. -/
def leO (a b : Option Int) : Prop := a = none ∨ b = some UnK ∨ a = b
theorem leO_refl (a : Option Int) : leO a a := .inr (.inr rfl)
theorem leO_none (b : Option Int) : leO none b := .inl rfl
theorem leO_trans {a b c : Option Int} (h : leO a b) (k : leO b c) : leO a c := by
  rcases h with h | h | h
  · exact .inl h
  · rcases k with k | k | k
    · rw [h] at k; simp at k
    · exact .inr (.inl k)
    · exact .inr (.inl (k ▸ h))
  · rw [h]; exact k
theorem leO_anti {a b : Option Int} (h : leO a b) (k : leO b a) : a = b := by
  rcases h with h | h | h
  · rcases k with k | k | k
    · rw [h, k]
    · rw [h] at k; simp at k
    · exact k.symm
  · rcases k with k | k | k
    · rw [h] at k; simp at k
    · rw [h, k]
    · exact k.symm
  · exact h
/-- One more word comes. -/
def joO (a : Option Int) (x : Int) : Option Int := match a with | none => some x | some o => if o = x then some x else some UnK
theorem joO_up (a : Option Int) (x : Int) : leO a (joO a x) := by
  cases a with
  | none => exact leO_none _
  | some o =>
    unfold joO
    dsimp only
    split
    · rename_i h; rw [h]; exact leO_refl _
    · exact .inr (.inl rfl)
theorem joO_in (a : Option Int) (x : Int) : leO (some x) (joO a x) := by
  cases a with
  | none => exact leO_refl _
  | some o =>
    unfold joO
    dsimp only
    split
    · exact leO_refl _
    · exact .inr (.inl rfl)
theorem joO_least {a c : Option Int} {x : Int} (h : leO a c) (k : leO (some x) c) : leO (joO a x) c := by
  cases a with
  | none => exact k
  | some o =>
    unfold joO
    dsimp only
    split
    · exact k
    · rename_i hne
      rcases h with h | h | h
      · simp at h
      · exact .inr (.inl h)
      · rcases k with k | k | k
        · simp at k
        · exact .inr (.inl k)
        · rw [← k] at h; simp at h; exact absurd h hne
theorem joO_some (a : Option Int) (x : Int) : ∃ y, joO a x = some y := by
  unfold joO
  split
  · exact ⟨_, rfl⟩
  · split <;> exact ⟨_, rfl⟩
/-- How high it stands. -/
def hgO (a : Option Int) : Nat := match a with | none => 0 | some x => if x = UnK then 2 else 1
theorem hgO_le (a : Option Int) : hgO a ≤ 2 := by unfold hgO; split <;> (try split) <;> omega
theorem hgO_mono {a b : Option Int} (h : leO a b) : hgO a ≤ hgO b := by
  rcases h with h | h | h
  · rw [h]; simp [hgO]
  · rw [h]; have := hgO_le a; simpa [hgO] using this
  · rw [h]; exact Nat.le_refl _
theorem hgO_lt {a b : Option Int} (h : leO a b) (hne : a ≠ b) : hgO a < hgO b := by
  rcases h with h | h | h
  · subst h
    cases b with
    | none => exact absurd rfl hne
    | some x => simp only [hgO]; split <;> omega
  · subst h
    cases a with
    | none => simp [hgO]
    | some x =>
      have : x ≠ UnK := fun e => hne (by rw [e])
      simp [hgO, this]
  · exact absurd h hne

/-- The step that pushed what is stored at i; a push of what is unknown where nothing is told. -/
def storedF (code : List Tx.Ins) (i : Nat) : Tx.Ins :=
  if ldB code code.length i then (1, UnK, 0)
  else if (insF code (i - 1)).1 = 1 ∨ (insF code (i - 1)).1 = 2 then insF code (i - 1) else (1, UnK, 0)
/-- What local s with word v ahead of i tells behind i: of which local which word. -/
def tellsF (code : List Tx.Ins) (i : Nat) (s : Nat) (v : Int) : List (Int × Int) :=
  if (insF code i).1 ≠ 3 then [((s : Int), v)]
  else (if (s : Int) ≠ (insF code i).2.1 then [((s : Int), v)] else []) ++ (if (storedF code i).1 = 2 ∧ (storedF code i).2.1 = (s : Int) then [((insF code i).2.1, v)] else []) ++
    (if (storedF code i).1 = 1 ∧ (insF code i).2.1 = (s : Int) then [((insF code i).2.1, (storedF code i).2.1)] else [])
theorem tells_mono {code : List Tx.Ins} {i s : Nat} {v v' j x : Int} (h : (j, x) ∈ tellsF code i s v) (hv : leO (some v) (some v')) : ∃ x', (j, x') ∈ tellsF code i s v' ∧ leO (some x) (some x') := by
  unfold tellsF at h ⊢
  split at h
  · rename_i h3
    rw [if_pos h3]
    simp only [List.mem_singleton, Prod.mk.injEq] at h
    obtain ⟨rfl, rfl⟩ := h
    exact ⟨v', by simp, hv⟩
  · rename_i h3
    rw [if_neg h3]
    simp only [List.mem_append] at h
    rcases h with (h | h) | h
    · split at h
      · rename_i hc
        simp only [List.mem_singleton, Prod.mk.injEq] at h
        obtain ⟨rfl, rfl⟩ := h
        exact ⟨v', by simp only [List.mem_append]; exact .inl (.inl (by rw [if_pos hc]; simp)), hv⟩
      · simp at h
    · split at h
      · rename_i hc
        simp only [List.mem_singleton, Prod.mk.injEq] at h
        obtain ⟨rfl, rfl⟩ := h
        exact ⟨v', by simp only [List.mem_append]; exact .inl (.inr (by rw [if_pos hc]; simp)), hv⟩
      · simp at h
    · split at h
      · rename_i hc
        simp only [List.mem_singleton, Prod.mk.injEq] at h
        obtain ⟨rfl, rfl⟩ := h
        exact ⟨_, by simp only [List.mem_append]; exact .inr (by rw [if_pos hc]; simp), leO_refl _⟩
      · simp at h
/-- What holds along all ways. -/
def SolK (code : List Tx.Ins) (K : Kw) : Prop :=
  (∀ j, j < 8 → K 0 j = some UnK) ∧ ∀ i, i < code.length → ∀ s, s < 8 → ∀ v, K i s = some v → ∀ j x, ((j : Nat) : Int) < 8 → ((j : Int), x) ∈ tellsF code i s v → ∀ t, nxB code i t = true → leO (some x) (K t j)
def UnderK (code : List Tx.Ins) (K : Kw) : Prop := ∀ K', SolK code K' → ∀ i, i < code.length → ∀ s, s < 8 → leO (K i s) (K' i s)
def LeastK (code : List Tx.Ins) (K : Kw) : Prop := SolK code K ∧ UnderK code K
theorem least_eq {code : List Tx.Ins} {K K' : Kw} (h : LeastK code K) (h' : LeastK code K') {i : Nat} (hi : i < code.length) {s : Nat} (hs : s < 8) : K i s = K' i s :=
  leO_anti (h.2 K' h'.1 i hi s hs) (h'.2 K h.1 i hi s hs)
open Classical in
noncomputable def knF (code : List Tx.Ins) : Kw := if h : ∃ K, LeastK code K then Classical.choose h else fun _ _ => none
theorem kn_least {code : List Tx.Ins} {K : Kw} (h : LeastK code K) : LeastK code (knF code) := by
  unfold knF
  rw [dif_pos ⟨K, h⟩]
  exact Classical.choose_spec (⟨K, h⟩ : ∃ K, LeastK code K)
/-- The word known of a local ahead of a step. -/
noncomputable def wdF (code : List Tx.Ins) (i s : Nat) : Int := (knF code i s).getD UnK
theorem wd_is {code : List Tx.Ins} {K : Kw} (h : LeastK code K) {i : Nat} (hi : i < code.length) {s : Nat} (hs : s < 8) : wdF code i s = (K i s).getD UnK := by
  unfold wdF
  rw [least_eq (kn_least h) h hi hs]
theorem under_tells {code : List Tx.Ins} {K' : Kw} (hK : SolK code K') {i s : Nat} (hi : i < code.length) (hs : s < 8) {v : Int} (hv : leO (some v) (K' i s)) {j : Nat} (hj : j < 8) {x : Int} (hx : ((j : Int), x) ∈ tellsF code i s v) {t : Nat} (ht : nxB code i t = true) : leO (some x) (K' t j) := by
  cases e : K' i s with
  | none => rw [e] at hv; rcases hv with h | h | h <;> simp at h
  | some v' =>
    rw [e] at hv
    obtain ⟨x', hx', hle⟩ := tells_mono hx hv
    exact leO_trans hle (hK.2 i hi s hs v' e j x' (by omega) hx' t ht)
/-! The program's way: what is known, what comes, what comes later. -/
def inK (code : List Tx.Ins) (K : Kw) : Prop := ∀ i s, K i s ≠ none → i < code.length ∧ s < 8
def setK (K : Kw) (i s : Nat) (v : Int) : Kw := fun a b => if a = i ∧ b = s then some v else K a b
/-- What a spot tells has come, is known or comes later. -/
def cov (K L M : Kw) (i s : Nat) (x : Int) : Prop := leO (some x) (K i s) ∨ leO (some x) (L i s) ∨ leO (some x) (M i s)
structure Lrn (code : List Tx.Ins) (K C L : Kw) : Prop where
  ki : inK code K
  ci : inK code C
  li : inK code L
  ku : UnderK code K
  cu : UnderK code C
  lu : UnderK code L
  begins : ∀ j, j < 8 → cov K C L 0 j UnK
  closed : ∀ i s v, K i s = some v → ∀ j : Nat, j < 8 → ∀ x, ((j : Int), x) ∈ tellsF code i s v → ∀ t, nxB code i t = true → cov K C L t j x
def noneK : Kw := fun _ _ => none
theorem Lrn.ends {code : List Tx.Ins} {K : Kw} (h : Lrn code K noneK noneK) : LeastK code K := by
  have hc : ∀ {i s x}, cov K noneK noneK i s x → leO (some x) (K i s) := by
    intro i s x hx
    rcases hx with h | h | h
    · exact h
    · rcases h with h | h | h <;> simp [noneK] at h
    · rcases h with h | h | h <;> simp [noneK] at h
  refine ⟨⟨fun j hj => ?_, fun i hi s hs v hv j x hj hx t ht => hc (h.closed i s v hv j (by omega) x hx t ht)⟩, h.ku⟩
  rcases hc (h.begins j hj) with e | e | e
  · simp at e
  · exact e
  · exact e.symm
/-- What comes is taken off what comes, and is known now; what it tells has been laid with what comes later. -/
theorem Lrn.learn {code : List Tx.Ins} {K C L L' : Kw} (h : Lrn code K C L) {i s : Nat} {w y : Int} (hC : C i s = some w) (hy : joO (K i s) w = some y)
    (hli : inK code L') (hlu : UnderK code L') (hup : ∀ a b, leO (L a b) (L' a b)) (hnews : K i s ≠ some y → ∀ j : Nat, j < 8 → ∀ x, ((j : Int), x) ∈ tellsF code i s y → ∀ t, nxB code i t = true → leO (some x) (L' t j)) :
    Lrn code (setK K i s y) (fun a b => if a = i ∧ b = s then none else C a b) L' := by
  obtain ⟨hin1, hin2⟩ := h.ci i s (by rw [hC]; simp)
  have hU : UnderK code (setK K i s y) := fun K' hK a ha b hb => by
    unfold setK
    split
    · rename_i e
      obtain ⟨rfl, rfl⟩ := e
      rw [← hy]
      exact joO_least (h.ku K' hK a ha b hb) (by have := h.cu K' hK a ha b hb; rwa [hC] at this)
    · exact h.ku K' hK a ha b hb
  have hst : leO (K i s) (some y) := by rw [← hy]; exact joO_up _ _
  have hcov : ∀ {a b x}, cov K C L a b x → cov (setK K i s y) (fun a b => if a = i ∧ b = s then none else C a b) L' a b x := by
    intro a b x hx
    rcases hx with hx | hx | hx
    · refine .inl (leO_trans hx ?_)
      unfold setK
      split
      · rename_i e; obtain ⟨rfl, rfl⟩ := e; exact hst
      · exact leO_refl _
    · by_cases e : a = i ∧ b = s
      · obtain ⟨rfl, rfl⟩ := e
        refine .inl ?_
        unfold setK
        rw [if_pos ⟨rfl, rfl⟩, ← hy]
        rw [hC] at hx
        exact leO_trans hx (joO_in _ _)
      · exact .inr (.inl (by dsimp only; rw [if_neg e]; exact hx))
    · exact .inr (.inr (leO_trans hx (hup _ _)))
  refine ⟨?_, ?_, hli, hU, ?_, hlu, fun j hj => hcov (h.begins j hj), ?_⟩
  · intro a b hab
    unfold setK at hab
    split at hab
    · rename_i e; obtain ⟨rfl, rfl⟩ := e; exact ⟨hin1, hin2⟩
    · exact h.ki a b hab
  · intro a b hab
    dsimp only at hab
    split at hab
    · simp at hab
    · exact h.ci a b hab
  · intro K' hK a ha b hb
    dsimp only
    split
    · exact leO_none _
    · exact h.cu K' hK a ha b hb
  · intro a b v hv j hj x hx t ht
    unfold setK at hv
    split at hv
    · rename_i e
      obtain ⟨rfl, rfl⟩ := e
      injection hv with hv
      subst hv
      by_cases hk : K a b = some y
      · exact hcov (h.closed a b y hk j hj x hx t ht)
      · exact .inr (.inr (hnews hk j hj x hx t ht))
    · exact hcov (h.closed a b v hv j hj x hx t ht)
/-- A round is over: what comes later comes. -/
theorem Lrn.turn {code : List Tx.Ins} {K L : Kw} (h : Lrn code K noneK L) : Lrn code K L noneK := by
  have hc : ∀ {a b x}, cov K noneK L a b x → cov K L noneK a b x := by
    intro a b x hx
    rcases hx with h | h | h
    · exact .inl h
    · exact .inr (.inr h)
    · exact .inr (.inl h)
  exact ⟨h.ki, h.li, h.ci, h.ku, h.lu, h.cu, fun j hj => hc (h.begins j hj), fun i s v hv j hj x hx t ht => hc (h.closed i s v hv j hj x hx t ht)⟩
theorem Lrn.start {code : List Tx.Ins} (h0 : 0 < code.length) : Lrn code noneK (fun a b => if a = 0 ∧ b < 8 then some UnK else none) noneK := by
  have hn : inK code noneK := fun i s h => by simp [noneK] at h
  have hu : UnderK code noneK := fun K' _ i _ s _ => leO_none _
  refine ⟨hn, ?_, hn, hu, ?_, hu, fun j hj => .inr (.inl (by simp [hj]; exact leO_refl _)), fun i s v hv => by simp [noneK] at hv⟩
  · intro a b hab
    dsimp only at hab
    split at hab
    · rename_i e; exact ⟨by omega, e.2⟩
    · simp at hab
  · intro K' hK a ha b hb
    dsimp only
    split
    · rename_i e; rw [e.1, hK.1 b e.2]; exact leO_refl _
    · exact leO_none _
/-- How high all stands. -/
def hgR (K : Kw) (i : Nat) : Nat := ((List.range 8).map fun s => hgO (K i s)).sum
def hgK (n : Nat) (K : Kw) : Nat := ((List.range n).map fun i => hgR K i).sum
theorem sum_le {f g : Nat → Nat} (h : ∀ i, f i ≤ g i) : ∀ l : List Nat, (l.map f).sum ≤ (l.map g).sum
  | [] => Nat.le_refl _
  | a :: l => by have := sum_le h l; have := h a; simp only [List.map_cons, List.sum_cons]; omega
theorem sum_lt {f g : Nat → Nat} (h : ∀ i, f i ≤ g i) {k : Nat} (hk : f k < g k) : ∀ l : List Nat, k ∈ l → (l.map f).sum < (l.map g).sum
  | [], hm => by simp at hm
  | a :: l, hm => by
    have h1 := sum_le h l
    have h2 := h a
    simp only [List.map_cons, List.sum_cons]
    rcases List.mem_cons.1 hm with rfl | hm
    · omega
    · have := sum_lt h hk l hm; omega
theorem sum_bd {f : Nat → Nat} {c : Nat} (h : ∀ i, f i ≤ c) : ∀ l : List Nat, (l.map f).sum ≤ l.length * c
  | [] => by simp
  | a :: l => by have := sum_bd h l; have := h a; simp only [List.map_cons, List.sum_cons, List.length_cons, Nat.add_mul]; omega
theorem hgK_bd (n : Nat) (K : Kw) : hgK n K ≤ n * 16 := by
  have h1 : ∀ i, hgR K i ≤ 16 := fun i => by
    have := sum_bd (f := fun s => hgO (K i s)) (fun s => hgO_le _) (List.range 8)
    simpa [hgR] using this
  have := sum_bd h1 (List.range n)
  simpa [hgK] using this
theorem hgK_le {n : Nat} {K K' : Kw} (h : ∀ i s, leO (K i s) (K' i s)) : hgK n K ≤ hgK n K' :=
  sum_le (fun i => sum_le (fun s => hgO_mono (h i s)) _) _
theorem hgK_lt {n : Nat} {K K' : Kw} (h : ∀ i s, leO (K i s) (K' i s)) {i s : Nat} (hi : i < n) (hs : s < 8) (hne : K i s ≠ K' i s) : hgK n K < hgK n K' := by
  have h1 : hgR K i < hgR K' i := sum_lt (f := fun s => hgO (K i s)) (g := fun s => hgO (K' i s)) (fun s => hgO_mono (h i s)) (hgO_lt (h i s) hne) _ (List.mem_range.2 hs)
  exact sum_lt (f := hgR K) (g := hgR K') (fun i => sum_le (fun s => hgO_mono (h i s)) _) h1 _ (List.mem_range.2 hi)
end Pg
end Go.Proofs.Ytffkkhaiedhaiaa

/- The specification's sweeps over what is known, plainly: they end in the same. -/
namespace Go.Proofs.Ytffkkhaiedhaiaa
namespace Pg
open Go.ChangeShapes Go.WideShapes Go.ChangeAt Go.RowKit St Wd

/-- The word behind a store, as a sweep tells it. -/
def stV (code : List Tx.Ins) (K : Kw) (i : Nat) : Int :=
  if 0 < i ∧ ldB code code.length i = false ∧ K (i - 1) 0 ≠ none then
    (if (insF code (i - 1)).1 = 1 then (insF code (i - 1)).2.1 else if (insF code (i - 1)).1 = 2 then (K (i - 1) (insF code (i - 1)).2.1.toNat).getD 0 else UnK)
  else UnK
def outK (code : List Tx.Ins) (K : Kw) (i j : Nat) : Int := if (insF code i).1 = 3 ∧ (insF code i).2.1 = (j : Int) then stV code K i else (K i j).getD 0
/-- What comes is put with what is there, up to local m. -/
def mrgK (K : Kw) (t : Nat) (out : Nat → Int) (m : Nat) : Kw := fun a b => if a = t ∧ b < m then joO (K a b) (out b) else K a b
theorem fall_only {code : List Tx.Ins} (hok : Lay.codeOk code = true) {i t : Nat} (hi : i < code.length) (h : nxB code i t = true) (ht : ldB code code.length t = false) : i + 1 = t := by
  have hj := fun h => jump_in hok hi h
  unfold nxB waysF at h
  simp only [Bool.and_eq_true, decide_eq_true_eq] at h
  obtain ⟨h1, h2⟩ := h
  have hjump : (insF code i).1 = 11 ∨ (insF code i).1 = 12 → (insF code i).2.1.toNat = t → False := fun hj' e => by
    have hA := hj hj'
    have hjb : Lay.jumpB (insF code i).1 = true := by unfold Lay.jumpB; simpa using hj'
    have e2 : (insF code i).2.1 = (t : Int) := by omega
    have : ldB code (i + 1) t = true := by
      unfold ldB ld1
      simp [hjb, e2, h2]
    rw [ldB_mono code (show i + 1 ≤ code.length by omega) this] at ht
    simp at ht
  by_cases h20 : (insF code i).1 = 20
  · simp [h20] at h1
  · by_cases h11 : (insF code i).1 = 11
    · simp [h11] at h1
      exact absurd h1.symm (fun e => hjump (.inl h11) e)
    · by_cases h12 : (insF code i).1 = 12
      · simp [h12] at h1
        rcases h1 with h1 | h1
        · exact absurd h1.symm (fun e => hjump (.inr h12) e)
        · exact h1.symm
      · simp [h20, h11, h12] at h1
        exact h1.symm
theorem load_falls {code : List Tx.Ins} {i : Nat} (hi : i + 1 < code.length) (h : (insF code i).1 = 2) : nxB code i (i + 1) = true := by
  unfold nxB waysF
  simp [h, hi]
/-- What holds between two steps of a sweep. -/
structure InvS (code : List Tx.Ins) (K : Kw) : Prop where
  rows : ∀ i, (∀ j, j < 8 → K i j ≠ none) ∨ ∀ j, K i j = none
  inn : inK code K
  first : ∀ j, j < 8 → K 0 j = some UnK
  under : UnderK code K
  lag : ∀ i, i + 1 < code.length → ldB code code.length (i + 1) = false → K (i + 1) 0 ≠ none → K i 0 ≠ none ∧ ((insF code i).1 = 2 → ∀ j, leO (K (i + 1) j) (K i j))
theorem InvS.at {code : List Tx.Ins} {K : Kw} (h : InvS code K) {i : Nat} (hi : K i 0 ≠ none) {j : Nat} (hj : j < 8) : K i j = some ((K i j).getD 0) := by
  rcases h.rows i with h1 | h1
  · cases e : K i j with
    | none => exact absurd e (h1 j hj)
    | some v => rfl
  · exact absurd (h1 0) hi
theorem op3_A {code : List Tx.Ins} (hok : Lay.codeOk code = true) {k : Nat} (hk : k < code.length) (h : (insF code k).1 = 3 ∨ (insF code k).1 = 2) : 0 ≤ (insF code k).2.1 ∧ (insF code k).2.1 < 8 := by
  have := Lay.ok_at hok (ins_is hk)
  unfold Tx.okI at this
  rw [if_neg (by omega)] at this
  unfold Tx.limA at this
  simp only [Bool.and_eq_true, decide_eq_true_eq] at this
  rw [if_pos (by omega)] at this
  omega
theorem ld_first (code : List Tx.Ins) : ∀ n, ldB code n 0 = true
  | 0 => by simp [ldB]
  | n + 1 => by simp [ldB, ld_first code n]
/-- What goes out is under all that hold. -/
theorem out_under {code : List Tx.Ins} (hok : Lay.codeOk code = true) {K : Kw} (h : InvS code K) {i : Nat} (hi : i < code.length) (hr : K i 0 ≠ none) {j : Nat} (hj : j < 8) {t : Nat} (ht : nxB code i t = true) {K' : Kw} (hK : SolK code K') :
    leO (some (outK code K i j)) (K' t j) := by
  have hv : ∀ s, s < 8 → leO (some ((K i s).getD 0)) (K' i s) := fun s hs => by rw [← h.at hr hs]; exact h.under K' hK i hi s hs
  unfold outK
  split
  · rename_i hA
    have hin : ∀ c, (storedF code i).1 = 1 → (storedF code i).2.1 = c → leO (some c) (K' t j) := fun c h1 h2 => by
      refine under_tells hK hi hj (hv j hj) hj (x := c) ?_ ht
      unfold tellsF
      rw [if_neg (by simp [hA.1])]
      simp only [List.mem_append]
      exact .inr (by rw [if_pos ⟨h1, hA.2⟩, h2, hA.2]; simp)
    unfold stV
    split
    · rename_i hc
      obtain ⟨h0, hl, hp⟩ := hc
      have hst : (insF code (i - 1)).1 = 1 ∨ (insF code (i - 1)).1 = 2 → storedF code i = insF code (i - 1) := fun ho => by unfold storedF; simp [hl, ho]
      split
      · rename_i h1
        exact hin _ (by rw [hst (.inl h1)]; exact h1) (by rw [hst (.inl h1)])
      · split
        · rename_i h1 h2
          obtain ⟨p, rfl⟩ : ∃ p, i = p + 1 := ⟨i - 1, by omega⟩
          simp only [Nat.add_sub_cancel] at hp h1 h2 hst ⊢
          have hx := op3_A hok (k := p) (by omega) (.inr h2)
          have hx8 : (insF code p).2.1.toNat < 8 := by omega
          have e : (((insF code p).2.1.toNat : Nat) : Int) = (insF code p).2.1 := by omega
          have g1 : leO (some ((K p (insF code p).2.1.toNat).getD 0)) (K' p (insF code p).2.1.toNat) := by rw [← h.at hp hx8]; exact h.under K' hK p (by omega) _ hx8
          have g2 : leO (some ((K p (insF code p).2.1.toNat).getD 0)) (K' (p + 1) (insF code p).2.1.toNat) := by
            refine under_tells hK (show p < code.length by omega) hx8 g1 hx8 ?_ (load_falls hi h2)
            unfold tellsF
            simp [h2]
          refine under_tells hK hi hx8 g2 hj ?_ ht
          unfold tellsF
          rw [if_neg (by simp [hA.1])]
          simp only [List.mem_append]
          exact .inl (.inr (by rw [hst (.inr h2), if_pos ⟨h2, e.symm⟩, hA.2]; simp))
        · rename_i h1 h2
          have : storedF code i = (1, UnK, 0) := by unfold storedF; simp [hl, h1, h2]
          exact hin _ (by rw [this]) (by rw [this])
    · rename_i hc
      have : storedF code i = (1, UnK, 0) := by
        unfold storedF
        split
        · rfl
        · rename_i hl
          simp only [Bool.not_eq_true] at hl
          exfalso
          have h0 : 0 < i := by
            rcases Nat.eq_zero_or_pos i with e | e
            · rw [e, ld_first] at hl; simp at hl
            · exact e
          obtain ⟨p, rfl⟩ : ∃ p, i = p + 1 := ⟨i - 1, by omega⟩
          exact hc ⟨h0, hl, (h.lag p hi hl hr).1⟩
      exact hin _ (by rw [this]) (by rw [this])
  · rename_i hA
    refine under_tells hK hi hj (hv j hj) hj ?_ ht
    unfold tellsF
    split
    · simp
    · rename_i h3
      simp only [List.mem_append]
      refine .inl (.inl ?_)
      have h3' : (insF code i).1 = 3 := by simpa using h3
      have : (j : Int) ≠ (insF code i).2.1 := fun e => hA ⟨h3', e.symm⟩
      rw [if_pos this]
      simp
/-- One merging: all holds as before. -/
theorem InvS.merge {code : List Tx.Ins} (hok : Lay.codeOk code = true) {K0 K : Kw} (h0 : InvS code K0) (h : InvS code K) (hup : ∀ a b, leO (K0 a b) (K a b)) {i : Nat} (hi : i < code.length) (hr : K0 i 0 ≠ none) {t : Nat} (ht : nxB code i t = true) :
    InvS code (mrgK K t (outK code K0 i) 8) := by
  have htl : t < code.length := by unfold nxB at ht; simp only [Bool.and_eq_true, decide_eq_true_eq] at ht; exact ht.2
  have hri : K i 0 ≠ none := fun e => by
    have := hup i 0
    rw [e] at this
    rcases this with h1 | h1 | h1
    · exact hr h1
    · simp at h1
    · exact hr h1
  refine ⟨fun a => ?_, fun a b hab => ?_, fun j hj => ?_, fun K' hK a ha b hb => ?_, fun a ha hl hra => ?_⟩
  · by_cases e : a = t
    · left
      intro j hj
      unfold mrgK
      rw [if_pos ⟨e, hj⟩]
      obtain ⟨y, hy⟩ := joO_some (K a j) (outK code K0 i j)
      rw [hy]; simp
    · have : ∀ b, mrgK K t (outK code K0 i) 8 a b = K a b := fun b => by unfold mrgK; simp [e]
      simp only [this]
      exact h.rows a
  · unfold mrgK at hab
    split at hab
    · rename_i e; exact ⟨by omega, e.2⟩
    · exact h.inn a b hab
  · unfold mrgK
    rw [h.first j hj]
    split
    · unfold joO; dsimp only; split
      · rename_i e; rw [e]
      · rfl
    · rfl
  · unfold mrgK
    split
    · rename_i e
      rw [e.1]
      exact joO_least (h.under K' hK t htl b hb) (out_under hok h0 hi hr hb ht hK)
    · exact h.under K' hK a ha b hb
  · by_cases e : a + 1 = t
    · have hia : i = a := by have := fall_only hok hi ht (e ▸ hl); omega
      subst hia
      have hne : ¬ i = t := by omega
      have e1 : ∀ b, mrgK K t (outK code K0 i) 8 i b = K i b := fun b => by unfold mrgK; simp [hne]
      simp only [e1]
      refine ⟨hri, fun h2 j => ?_⟩
      unfold mrgK
      split
      · rename_i hj
        have ho : outK code K0 i j = (K0 i j).getD 0 := by unfold outK; rw [if_neg (by rw [h2]; simp)]
        rw [ho]
        refine joO_least ?_ ?_
        · by_cases hk : K (i + 1) 0 = none
          · rcases h.rows (i + 1) with h1 | h1
            · exact absurd hk (h1 0 (by omega))
            · rw [h1]; exact leO_none _
          · exact (h.lag i ha hl hk).2 h2 j
        · rw [← h0.at hr hj.2]; exact hup i j
      · rename_i hj
        have : ¬ j < 8 := fun h8 => hj ⟨e, h8⟩
        cases hk : K (i + 1) j with
        | none => exact leO_none _
        | some v => exact absurd (h.inn (i + 1) j (by rw [hk]; simp)).2 this
    · have e1 : ∀ b, mrgK K t (outK code K0 i) 8 (a + 1) b = K (a + 1) b := fun b => by unfold mrgK; simp [e]
      simp only [e1] at hra ⊢
      have hup2 : ∀ b, leO (K a b) (mrgK K t (outK code K0 i) 8 a b) := fun b => by
        unfold mrgK
        split
        · exact joO_up _ _
        · exact leO_refl _
      obtain ⟨g1, g2⟩ := h.lag a ha hl hra
      refine ⟨fun hn => ?_, fun h2 j => leO_trans (g2 h2 j) (hup2 j)⟩
      have := hup2 0
      rw [hn] at this
      rcases this with h1 | h1 | h1
      · exact g1 h1
      · simp at h1
      · exact g1 h1
def clsK (code : List Tx.Ins) (K : Kw) (i : Nat) : Prop := K i 0 ≠ none → ∀ t, nxB code i t = true → ∀ j, j < 8 → leO (some (outK code K i j)) (K t j)
/-- Where nothing more comes it is the least that holds. -/
theorem InvS.ends {code : List Tx.Ins} (hok : Lay.codeOk code = true) {K : Kw} (h : InvS code K) (hc : ∀ i, i < code.length → clsK code K i) : LeastK code K := by
  refine ⟨⟨h.first, fun i hi s hs v hv j x hj hx t ht => ?_⟩, h.under⟩
  have hr : K i 0 ≠ none := by
    rcases h.rows i with h1 | h1
    · exact h1 0 (by omega)
    · rw [h1] at hv; simp at hv
  have hcl : ∀ j : Nat, j < 8 → leO (some (outK code K i j)) (K t j) := fun j hj => hc i hi hr t ht j hj
  unfold tellsF at hx
  split at hx
  · rename_i h3
    simp only [List.mem_singleton, Prod.mk.injEq] at hx
    obtain ⟨e1, e2⟩ := hx
    have e1 : j = s := by omega
    subst e1 e2
    have := hcl j (by omega)
    unfold outK at this
    rw [if_neg (fun hh => h3 hh.1), hv] at this
    exact this
  · rename_i h3
    have h3' : (insF code i).1 = 3 := by simpa using h3
    have hA := op3_A hok hi (.inl h3')
    simp only [List.mem_append] at hx
    rcases hx with (hx | hx) | hx
    · split at hx
      · rename_i hne
        simp only [List.mem_singleton, Prod.mk.injEq] at hx
        obtain ⟨e1, e2⟩ := hx
        have e1 : j = s := by omega
        subst e1 e2
        have := hcl j (by omega)
        unfold outK at this
        rw [if_neg (fun hh => hne hh.2.symm), hv] at this
        exact this
      · simp at hx
    · split at hx
      · rename_i hst
        simp only [List.mem_singleton, Prod.mk.injEq] at hx
        obtain ⟨e1, e2⟩ := hx
        subst e2
        refine leO_trans ?_ (hcl j (by omega))
        unfold outK
        rw [if_pos ⟨h3', e1.symm⟩]
        unfold storedF at hst
        split at hst
        · simp at hst
        · rename_i hl
          simp only [Bool.not_eq_true] at hl
          have h0 : 0 < i := by
            rcases Nat.eq_zero_or_pos i with e | e
            · rw [e, ld_first] at hl; simp at hl
            · exact e
          obtain ⟨p, rfl⟩ : ∃ p, i = p + 1 := ⟨i - 1, by omega⟩
          simp only [Nat.add_sub_cancel] at hst
          obtain ⟨g1, g2⟩ := h.lag p hi hl hr
          split at hst
          · unfold stV
            simp only [Nat.add_sub_cancel]
            rw [if_pos ⟨h0, hl, g1⟩, if_neg (by rw [hst.1]; omega), if_pos hst.1]
            have es : (insF code p).2.1.toNat = s := by omega
            rw [es, ← h.at g1 hs, ← hv]
            exact g2 hst.1 s
          · simp at hst
      · simp at hx
    · split at hx
      · rename_i hst
        simp only [List.mem_singleton, Prod.mk.injEq] at hx
        obtain ⟨e1, e2⟩ := hx
        subst e2
        have := hcl j (by omega)
        unfold outK at this
        rw [if_pos ⟨h3', e1.symm⟩] at this
        have e : stV code K i = (storedF code i).2.1 := by
          unfold stV storedF
          cases hl : ldB code code.length i
          · have h0 : 0 < i := by
              rcases Nat.eq_zero_or_pos i with e | e
              · rw [e, ld_first] at hl; simp at hl
              · exact e
            obtain ⟨p, rfl⟩ : ∃ p, i = p + 1 := ⟨i - 1, by omega⟩
            have g1 := (h.lag p hi hl hr).1
            simp only [Nat.add_sub_cancel]
            rw [if_pos ⟨h0, by simp, g1⟩]
            unfold storedF at hst
            simp only [hl, Nat.add_sub_cancel] at hst
            by_cases o1 : (insF code p).1 = 1
            · simp [o1]
            · by_cases o2 : (insF code p).1 = 2
              · simp [o2] at hst
              · simp [o1, o2]
          · simp
        rw [e] at this
        exact this
      · simp at hx
end Pg
end Go.Proofs.Ytffkkhaiedhaiaa

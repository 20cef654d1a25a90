/- Patterns and texts, plainly: where the beginnings of a pattern may end in a text. -/
import Derived.Test.YtbachkjhmenhfaaBn0
namespace Go.Proofs.Ytbachkjhmenhfaa
namespace Pg

def hitB (c d : UInt8) : Bool := c == 63 || c == d
def hitAt (c : UInt8) (T : List UInt8) (k : Nat) : Bool := match T[k]? with | some d => hitB c d | none => false
/-- Where one may be behind one part more. -/
def stepM (c : UInt8) (T : List UInt8) (S : Nat → Bool) : Nat → Bool
  | 0 => c == 42 && S 0
  | k + 1 => if c = 42 then S (k + 1) || stepM c T S k else hitAt c T k && S k
def rowM (P T : List UInt8) : Nat → Bool := P.foldl (fun S c => stepM c T S) fun k => decide (k = 0)
def matM (P T : List UInt8) : Bool := decide (P.length ≤ 60) && decide (T.length ≤ 60) && rowM P T T.length
theorem rowM_snoc (P : List UInt8) (c : UInt8) (T : List UInt8) : rowM (P ++ [c]) T = stepM c T (rowM P T) := by simp [rowM]
theorem rowM_take {P : List UInt8} (T : List UInt8) {k : Nat} (h : k < P.length) : rowM (P.take (k + 1)) T = stepM P[k] T (rowM (P.take k) T) := by
  rw [List.take_succ_eq_append_getElem h, rowM_snoc]
theorem star_iff (T : List UInt8) (S : Nat → Bool) : ∀ k, stepM 42 T S k = true ↔ ∃ j, j ≤ k ∧ S j = true
  | 0 => by
    simp only [stepM, beq_self_eq_true, Bool.true_and]
    constructor
    · intro h; exact ⟨0, Nat.le_refl _, h⟩
    · rintro ⟨j, hj, h⟩
      obtain rfl : j = 0 := by omega
      exact h
  | k + 1 => by
    have ih := star_iff T S k
    simp only [stepM, if_true, Bool.or_eq_true, ih]
    constructor
    · rintro (h | ⟨j, hj, h⟩)
      · exact ⟨k + 1, Nat.le_refl _, h⟩
      · exact ⟨j, by omega, h⟩
    · rintro ⟨j, hj, h⟩
      by_cases e : j = k + 1
      · subst e; exact Or.inl h
      · exact Or.inr ⟨j, by omega, h⟩
theorem one_iff {c : UInt8} (hc : c ≠ 42) (T : List UInt8) (S : Nat → Bool) (k : Nat) : stepM c T S k = true ↔ ∃ j, k = j + 1 ∧ hitAt c T j = true ∧ S j = true := by
  cases k with
  | zero =>
    simp only [stepM, Bool.and_eq_true, beq_iff_eq]
    constructor
    · rintro ⟨h, _⟩; exact absurd h hc
    · rintro ⟨j, h, _⟩; omega
  | succ k =>
    simp only [stepM, if_neg hc, Bool.and_eq_true]
    constructor
    · rintro ⟨h1, h2⟩; exact ⟨k, rfl, h1, h2⟩
    · rintro ⟨j, h, h1, h2⟩
      obtain rfl : j = k := by omega
      exact ⟨h1, h2⟩
theorem hit_lt {c : UInt8} {T : List UInt8} {k : Nat} (h : hitAt c T k = true) : k < T.length := by
  unfold hitAt at h
  rcases Nat.lt_or_ge k T.length with hk | hk
  · exact hk
  · rw [List.getElem?_eq_none hk] at h; simp at h
theorem hit_get {c : UInt8} {T : List UInt8} {k : Nat} (h : k < T.length) : hitAt c T k = hitB c T[k] := by
  unfold hitAt
  rw [List.getElem?_eq_getElem h]

/-- Where a part may end that begins at a. -/
def endP (c : UInt8) (T : List UInt8) (a k : Nat) : Bool := if c = 42 then decide (a ≤ k) && decide (k ≤ T.length) else decide (k = a + 1) && hitAt c T a
def endsP (c : UInt8) (T : List UInt8) (S : Nat → Bool) (m k : Nat) : Bool := (List.range m).any fun a => S a && endP c T a k
def needN (c : UInt8) : Nat := if c = 42 then 0 else 1
theorem needN_le (c : UInt8) : needN c ≤ 1 := by unfold needN; split <;> omega
theorem endsP_zero (c : UInt8) (T : List UInt8) (S : Nat → Bool) (k : Nat) : endsP c T S 0 k = false := by simp [endsP]
theorem endsP_succ (c : UInt8) (T : List UInt8) (S : Nat → Bool) (m k : Nat) : endsP c T S (m + 1) k = (endsP c T S m k || (S m && endP c T m k)) := by
  simp [endsP, List.range_succ]
theorem ends_all (c : UInt8) (T : List UInt8) (S : Nat → Bool) (k : Nat) : endsP c T S (T.length + 1 - needN c) k = (decide (k ≤ T.length) && stepM c T S k) := by
  rw [Bool.eq_iff_iff]
  simp only [endsP, List.any_eq_true, List.mem_range, Bool.and_eq_true, decide_eq_true_eq]
  by_cases hc : c = 42
  · subst hc
    rw [star_iff]
    simp only [endP, if_true, needN, Bool.and_eq_true, decide_eq_true_eq]
    constructor
    · rintro ⟨a, h1, h2, h3, h4⟩; exact ⟨h4, a, h3, h2⟩
    · rintro ⟨h4, a, h3, h2⟩; exact ⟨a, by omega, h2, h3, h4⟩
  · rw [one_iff hc]
    simp only [endP, if_neg hc, needN, Bool.and_eq_true, decide_eq_true_eq]
    constructor
    · rintro ⟨a, h1, h2, h3, h4⟩; exact ⟨by omega, a, h3, h4, h2⟩
    · rintro ⟨h4, a, h3, h2, h5⟩; exact ⟨a, by omega, h5, h3, h2⟩
def leastM (P : List UInt8) : Nat := (P.map needN).sum
theorem leastM_len (P : List UInt8) : leastM P ≤ P.length := by
  induction P with
  | nil => simp [leastM]
  | cons c P ih =>
    have := needN_le c
    simp only [leastM, List.map_cons, List.sum_cons, List.length_cons] at ih ⊢
    omega
theorem leastM_snoc (P : List UInt8) (c : UInt8) : leastM (P ++ [c]) = leastM P + needN c := by simp [leastM]
theorem leastM_take {P : List UInt8} {k : Nat} (h : k < P.length) : leastM (P.take (k + 1)) = leastM (P.take k) + needN P[k] := by
  rw [List.take_succ_eq_append_getElem h, leastM_snoc]
theorem snoc_ind {α : Type} {C : List α → Prop} (h0 : C []) (h1 : ∀ l x, C l → C (l ++ [x])) (l : List α) : C l := by
  rw [← List.reverse_reverse l]
  generalize l.reverse = r
  induction r with
  | nil => exact h0
  | cons x r ih => rw [List.reverse_cons]; exact h1 _ _ ih
theorem least_le (T : List UInt8) (P : List UInt8) : ∀ k, rowM P T k = true → leastM P ≤ k := by
  refine snoc_ind (C := fun P => ∀ k, rowM P T k = true → leastM P ≤ k) (fun k _ => by simp [leastM]) (fun P c ih k h => ?_) P
  rw [rowM_snoc] at h
  rw [leastM_snoc]
  by_cases hc : c = 42
  · subst hc
    obtain ⟨j, hj, hs⟩ := (star_iff _ _ _).1 h
    have := ih j hs
    simp only [needN, if_true]; omega
  · obtain ⟨j, hj, _, hs⟩ := (one_iff hc _ _ _).1 h
    have := ih j hs
    simp only [needN, if_neg hc]; omega
/-- The places of a text behind a beginning of the pattern. -/
def setM (P T : List UInt8) (k : Nat) : Bool := decide (k ≤ T.length) && rowM P T k
theorem setM_nil (T : List UInt8) (k : Nat) : setM [] T k = decide (k = 0) := by
  simp only [setM, rowM, List.foldl_nil]
  by_cases h : k = 0 <;> simp [h]
theorem step_congr (c : UInt8) (T : List UInt8) {R S : Nat → Bool} {n : Nat} (h : ∀ j, j ≤ n → R j = S j) : ∀ k, k ≤ n → stepM c T R k = stepM c T S k
  | 0, h0 => by simp [stepM, h 0 h0]
  | k + 1, hk => by
    simp only [stepM]
    rw [h (k + 1) hk, h k (by omega), step_congr c T h k (by omega)]
theorem setM_take {P : List UInt8} (T : List UInt8) {k : Nat} (h : k < P.length) (j : Nat) : (decide (j ≤ T.length) && stepM P[k] T (setM (P.take k) T) j) = setM (P.take (k + 1)) T j := by
  unfold setM
  rw [rowM_take T h]
  by_cases hj : j ≤ T.length
  · rw [step_congr P[k] T (S := rowM (P.take k) T) (n := T.length) (fun i hi => by simp [hi]) j hj]
  · simp [hj]

/-! What the law asks besides. -/
theorem mat_star {T : List UInt8} (h : T.length ≤ 60) : matM [42] T = true := by
  have : rowM [42] T T.length = true := (star_iff T _ _).2 ⟨0, by omega, rfl⟩
  simp [matM, h, this]
theorem mat_self {T : List UInt8} (h : T.length ≤ 60) : matM T T = true := by
  have key : ∀ k, k ≤ T.length → rowM (T.take k) T k = true := by
    intro k
    induction k with
    | zero => intro _; simp [rowM]
    | succ k ih =>
      intro hk
      have ih := ih (by omega)
      rw [rowM_take T (by omega)]
      by_cases hc : T[k] = 42
      · rw [hc]
        exact (star_iff _ _ _).2 ⟨k, by omega, ih⟩
      · exact (one_iff hc _ _ _).2 ⟨k, rfl, by rw [hit_get (by omega)]; simp [hitB], ih⟩
  have := key T.length (Nat.le_refl _)
  rw [List.take_length] at this
  simp [matM, h, this]
theorem hit_take {c : UInt8} {T : List UInt8} {j k : Nat} (h : k < j) : hitAt c (T.take j) k = hitAt c T k := by
  unfold hitAt
  rw [List.getElem?_take, if_pos h]
theorem row_take (T : List UInt8) (j : Nat) (P : List UInt8) : ∀ k, k ≤ j → rowM P (T.take j) k = rowM P T k := by
  refine snoc_ind (C := fun P => ∀ k, k ≤ j → rowM P (T.take j) k = rowM P T k) (fun k _ => rfl) (fun P c ih k hk => ?_) P
  rw [rowM_snoc, rowM_snoc, Bool.eq_iff_iff]
  by_cases hc : c = 42
  · subst hc
    rw [star_iff, star_iff]
    constructor
    · rintro ⟨i, hi, h⟩; exact ⟨i, hi, by rw [← ih i (by omega)]; exact h⟩
    · rintro ⟨i, hi, h⟩; exact ⟨i, hi, by rw [ih i (by omega)]; exact h⟩
  · rw [one_iff hc, one_iff hc]
    constructor
    · rintro ⟨i, hi, h, g⟩; exact ⟨i, hi, by rw [← hit_take (j := j) (by omega)]; exact h, by rw [← ih i (by omega)]; exact g⟩
    · rintro ⟨i, hi, h, g⟩; exact ⟨i, hi, by rw [hit_take (by omega)]; exact h, by rw [ih i (by omega)]; exact g⟩
theorem mat_begin {P T : List UInt8} (hp : P.length ≤ 59) (ht : T.length ≤ 60) : matM (P ++ [42]) T = (List.range (T.length + 1)).any fun j => matM P (T.take j) := by
  have h1 : (P ++ [42]).length ≤ 60 := by simp; omega
  simp only [matM, h1, ht, decide_true, Bool.true_and, show P.length ≤ 60 by omega, rowM_snoc]
  rw [Bool.eq_iff_iff, star_iff]
  simp only [List.any_eq_true, List.mem_range, Bool.and_eq_true, decide_eq_true_eq, List.length_take]
  constructor
  · rintro ⟨j, hj, h⟩
    refine ⟨j, by omega, by omega, ?_⟩
    rw [show min j T.length = j by omega, row_take T j P j (Nat.le_refl _)]
    exact h
  · rintro ⟨j, hj, _, h⟩
    rw [show min j T.length = j by omega, row_take T j P j (Nat.le_refl _)] at h
    exact ⟨j, by omega, h⟩
theorem fold_cons (d : UInt8) (T : List UInt8) (P : List UInt8) : ∀ (R S : Nat → Bool), R 0 = false → (∀ k, R (k + 1) = S k) → (P.foldl (fun S c => stepM c (d :: T) S) R) 0 = false ∧ ∀ k, (P.foldl (fun S c => stepM c (d :: T) S) R) (k + 1) = (P.foldl (fun S c => stepM c T S) S) k := by
  induction P with
  | nil => intro R S h0 h1; exact ⟨h0, h1⟩
  | cons c P ih =>
    intro R S h0 h1
    simp only [List.foldl_cons]
    refine ih _ _ (by simp [stepM, h0]) fun k => ?_
    rw [Bool.eq_iff_iff]
    by_cases hc : c = 42
    · subst hc
      rw [star_iff, star_iff]
      constructor
      · rintro ⟨j, hj, h⟩
        cases j with
        | zero => rw [h0] at h; simp at h
        | succ j => exact ⟨j, by omega, by rw [← h1]; exact h⟩
      · rintro ⟨j, hj, h⟩; exact ⟨j + 1, by omega, by rw [h1]; exact h⟩
    · rw [one_iff hc, one_iff hc]
      constructor
      · rintro ⟨j, hj, h, g⟩
        cases j with
        | zero => rw [h0] at g; simp at g
        | succ j => exact ⟨j, by omega, h, by rw [← h1]; exact g⟩
      · rintro ⟨j, hj, h, g⟩; exact ⟨j + 1, by omega, h, by rw [h1]; exact g⟩
theorem mat_any {P T : List UInt8} (d : UInt8) (hp : P.length ≤ 59) (ht : T.length ≤ 59) : matM (63 :: P) (d :: T) = matM P T := by
  have h1 : (63 :: P).length ≤ 60 := by simp; omega
  have h2 : (d :: T).length ≤ 60 := by simp; omega
  simp only [matM, h1, h2, decide_true, Bool.true_and, show P.length ≤ 60 by omega, show T.length ≤ 60 by omega]
  simp only [rowM, List.foldl_cons, List.length_cons]
  refine (fold_cons d T P _ _ ?_ fun k => ?_).2 _
  · simp [stepM]
  · simp only [stepM]
    rw [if_neg (by decide)]
    cases k with
    | zero => simp [hitAt, hitB]
    | succ k => simp
theorem mat_len {P T : List UInt8} (hs : ∀ c ∈ P, c ≠ 42) (h : matM P T = true) : P.length = T.length := by
  have key : ∀ (P : List UInt8), (∀ c ∈ P, c ≠ 42) → ∀ k, rowM P T k = true → P.length = k := by
    refine snoc_ind (fun _ k h => by simpa [rowM, eq_comm] using h) fun P c ih hs k h => ?_
    rw [rowM_snoc] at h
    obtain ⟨j, rfl, _, g⟩ := (one_iff (hs c (by simp)) _ _ _).1 h
    have := ih (fun d hd => hs d (by simp [hd])) j g
    simp [this]
  simp only [matM, Bool.and_eq_true] at h
  exact key P hs _ h.2

theorem u8_eq (c d : UInt8) : ((c.toNat : Int) == (d.toNat : Int)) = (c == d) := by
  rw [Bool.eq_iff_iff]
  simp only [beq_iff_eq]
  constructor
  · intro h; exact UInt8.toNat_inj.1 (by omega)
  · intro h; rw [h]
end Pg
end Go.Proofs.Ytbachkjhmenhfaa

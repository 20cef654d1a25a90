/- Three that are worked out ahead, plainly. -/
import Derived.Test.YtlbjnlkeagmpoaaNx5
import Derived.Test.YtlbjnlkeagmpoaaSu0
namespace Go.Proofs.Ytlbjnlkeagmpoaa
namespace Pg
open Go.ChangeShapes Go.WideShapes Go.ChangeAt Go.RowKit St Wd

/-- Can the three from i on be worked out? -/
def foldB (code : List Tx.Ins) (i : Nat) : Bool :=
  decide (i + 3 < code.length) && (decide ((insF code i).1 = 1) && (decide ((insF code (i + 1)).1 = 1) && (decide (4 ≤ (insF code (i + 2)).1 ∧ (insF code (i + 2)).1 ≤ 7) &&
    (!(decide ((insF code (i + 2)).1 = 7 ∧ (insF code (i + 1)).2.1 = 0)) && (!(ldB code code.length (i + 1)) && !(ldB code code.length (i + 2)))))))
def outI (code : List Tx.Ins) (i : Nat) : Int := sumS (insF code (i + 2)).1 (insF code i).2.1 (insF code (i + 1)).2.1
def foldAt (code : List Tx.Ins) (i : Nat) : List Tx.Ins := ((code.set i (1, outI code i, 0)).set (i + 1) (11, (i : Int) + 3, 0)).set (i + 2) (11, (i : Int) + 3, 0)
def foldsF (code : List Tx.Ins) : List Tx.Ins × Bool := match (List.range code.length).find? (foldB code) with | some i => (foldAt code i, true) | none => (code, false)
theorem find_range {p : Nat → Bool} {k n : Nat} (h : ∀ i, i < k → p i = false) (hk : k < n) (hp : p k = true) : (List.range n).find? p = some k := by
  obtain ⟨m, rfl⟩ : ∃ m, n = k + (m + 1) := ⟨n - k - 1, by omega⟩
  rw [List.range_add, List.find?_append]
  have h1 : (List.range k).find? p = none := List.find?_eq_none.2 fun i hi => by rw [h i (List.mem_range.1 hi)]; simp
  rw [h1, List.range_succ_eq_map]
  simp [hp]
theorem folds_some {code : List Tx.Ins} {k : Nat} (h : ∀ i, i < k → foldB code i = false) (hp : foldB code k = true) : foldsF code = (foldAt code k, true) := by
  have hk : k < code.length := by
    unfold foldB at hp
    simp only [Bool.and_eq_true, decide_eq_true_eq] at hp
    omega
  unfold foldsF
  rw [find_range h hk hp]
theorem folds_none {code : List Tx.Ins} {k : Nat} (h : ∀ i, i < k → foldB code i = false) (hk : code.length ≤ k + 3) : foldsF code = (code, false) := by
  unfold foldsF
  have : (List.range code.length).find? (foldB code) = none := List.find?_eq_none.2 fun i hi => by
    by_cases hi2 : i < k
    · rw [h i hi2]; simp
    · have : foldB code i = false := by unfold foldB; simp; intro hh; omega
      rw [this]; simp
  rw [this]
theorem foldAt_len (code : List Tx.Ins) (i : Nat) : (foldAt code i).length = code.length := by simp [foldAt]
theorem sum_ok (op a b : Int) : okB (sumS op a b) = true := by unfold sumS; repeat' split <;> try exact wrap_ok _
theorem codeOk_set {l : List Tx.Ins} (h : Lay.codeOk l = true) (i : Nat) {x : Tx.Ins} (hx : Tx.okT x = true) (hj : Lay.jumpB x.1 = true → x.2.1 < (l.length : Int)) : Lay.codeOk (l.set i x) = true := by
  unfold Lay.codeOk Tx.okC at h ⊢
  simp only [Bool.and_eq_true, decide_eq_true_eq, List.length_set, List.all_eq_true] at h ⊢
  obtain ⟨⟨h1, h2, h3⟩, h4⟩ := h
  refine ⟨⟨h1, h2, fun y hy => ?_⟩, fun y hy => ?_⟩
  · rcases List.mem_or_eq_of_mem_set hy with hy | rfl
    · exact h3 y hy
    · exact hx
  · rcases List.mem_or_eq_of_mem_set hy with hy | rfl
    · exact h4 y hy
    · cases hb : Lay.jumpB y.1
      · rfl
      · simp [hj hb]
theorem foldAt_ok {code : List Tx.Ins} (hok : Lay.codeOk code = true) {i : Nat} (hf : foldB code i = true) : Lay.codeOk (foldAt code i) = true := by
  have hl := (Lay.ok_len hok).2
  have hi : i + 3 < code.length := by
    unfold foldB at hf
    simp only [Bool.and_eq_true, decide_eq_true_eq] at hf
    omega
  unfold foldAt
  have hp : Tx.okT (1, outI code i, 0) = true := by
    have := ok_yes (sum_ok (insF code (i + 2)).1 (insF code i).2.1 (insF code (i + 1)).2.1)
    unfold outI
    unfold Tx.okT Tx.okI
    simp
    omega
  have hj : Tx.okT (11, (i : Int) + 3, 0) = true := by
    unfold Tx.okT Tx.okI Tx.limA Tx.limB
    simp
    omega
  refine codeOk_set (codeOk_set (codeOk_set hok _ hp ?_) _ hj ?_) _ hj ?_
  · intro h; simp [Lay.jumpB] at h
  · intro _; simp; omega
  · intro _; simp; omega
theorem folds_ok {code : List Tx.Ins} (hok : Lay.codeOk code = true) : Lay.codeOk (foldsF code).1 = true := by
  unfold foldsF
  split
  · rename_i i hi
    exact foldAt_ok hok (List.find?_some hi)
  · exact hok
theorem folds_len (code : List Tx.Ins) : (foldsF code).1.length = code.length := by
  unfold foldsF
  split
  · exact foldAt_len _ _
  · rfl
/-- How many steps are no jumps: less behind each folding. -/
def busyN (code : List Tx.Ins) : Nat := code.countP fun x => decide (x.1 ≠ 11)
theorem countP_set_le {p : Tx.Ins → Bool} {x : Tx.Ins} (hx : p x = false) : ∀ (l : List Tx.Ins) (i : Nat), (l.set i x).countP p ≤ l.countP p
  | [], i => by simp
  | y :: l, 0 => by simp [List.countP_cons, hx]
  | y :: l, i + 1 => by
    have := countP_set_le hx l i
    simp only [List.set_cons_succ, List.countP_cons]
    omega
theorem countP_set_lt {p : Tx.Ins → Bool} {x : Tx.Ins} (hx : p x = false) : ∀ (l : List Tx.Ins) (i : Nat) (y : Tx.Ins), l[i]? = some y → p y = true → (l.set i x).countP p < l.countP p
  | [], i, y, h, _ => by simp at h
  | z :: l, 0, y, h, hy => by
    simp at h; subst h
    simp [hx, hy]
  | z :: l, i + 1, y, h, hy => by
    have := countP_set_lt hx l i y (by simpa using h) hy
    simp only [List.set_cons_succ, List.countP_cons]
    omega
theorem countP_set_same {p : Tx.Ins → Bool} {x : Tx.Ins} : ∀ (l : List Tx.Ins) (i : Nat) (y : Tx.Ins), l[i]? = some y → p y = true → p x = true → (l.set i x).countP p = l.countP p
  | [], i, y, h, _, _ => by simp at h
  | z :: l, 0, y, h, hy, hx => by
    simp at h; subst h
    simp [hx, hy]
  | z :: l, i + 1, y, h, hy, hx => by
    have := countP_set_same l i y (by simpa using h) hy hx
    simp only [List.set_cons_succ, List.countP_cons]
    omega
theorem foldAt_busy {code : List Tx.Ins} {i : Nat} (hf : foldB code i = true) : busyN (foldAt code i) < busyN code := by
  unfold foldB at hf
  simp only [Bool.and_eq_true, decide_eq_true_eq, Bool.not_eq_true'] at hf
  obtain ⟨h1, h2, h3, h4, _⟩ := hf
  unfold busyN foldAt
  have e0 := ins_is (code := code) (k := i) (by omega)
  have e2 := ins_is (code := code) (k := i + 2) (by omega)
  refine Nat.lt_of_lt_of_le (countP_set_lt (by simp) _ _ (insF code (i + 2)) ?_ (by simp; omega)) (Nat.le_trans (countP_set_le (by simp) _ _) ?_)
  · rw [List.getElem?_set_ne (by omega), List.getElem?_set_ne (by omega)]; exact e2
  · rw [countP_set_same _ _ _ e0 (by simp [h2]) (by simp)]; exact Nat.le_refl _
/-- Folded as long as anything changes. -/
def foldAll : Nat → List Tx.Ins → List Tx.Ins
  | 0, code => code
  | n + 1, code => if (foldsF code).2 then foldAll n (foldsF code).1 else code
theorem folds_busy {code : List Tx.Ins} (h : (foldsF code).2 = true) : busyN (foldsF code).1 < busyN code := by
  unfold foldsF at h ⊢
  split at h
  · rename_i i hi
    exact foldAt_busy (List.find?_some hi)
  · simp at h
theorem folds_same {code : List Tx.Ins} (h : (foldsF code).2 = false) : (foldsF code).1 = code := by
  unfold foldsF at h ⊢
  split at h
  · simp at h
  · rfl
theorem foldAll_more : ∀ (n : Nat) (code : List Tx.Ins), busyN code ≤ n → ∀ m, n ≤ m → foldAll m code = foldAll n code
  | 0, code, h, m, _ => by
    have : (foldsF code).2 = false := by
      cases e : (foldsF code).2
      · rfl
      · have := folds_busy e; omega
    cases m with
    | zero => rfl
    | succ m => simp [foldAll, this]
  | n + 1, code, h, m, hm => by
    obtain ⟨m, rfl⟩ : ∃ k, m = k + 1 := ⟨m - 1, by omega⟩
    simp only [foldAll]
    cases e : (foldsF code).2
    · rfl
    · simp only [if_true]
      have := folds_busy e
      exact foldAll_more n _ (by omega) m (by omega)
def allF (code : List Tx.Ins) : List Tx.Ins := foldAll (busyN code) code
theorem allF_step {code : List Tx.Ins} (h : (foldsF code).2 = true) : allF code = allF (foldsF code).1 := by
  have hb := folds_busy h
  unfold allF
  obtain ⟨m, hm⟩ : ∃ k, busyN code = k + 1 := ⟨busyN code - 1, by omega⟩
  rw [hm]
  simp only [foldAll, h, if_true]
  exact foldAll_more _ _ (Nat.le_refl _) _ (by omega)
theorem allF_end {code : List Tx.Ins} (h : (foldsF code).2 = false) : allF code = code := by
  unfold allF
  cases busyN code with
  | zero => rfl
  | succ n => simp [foldAll, h]
/-- As the program tells the end: nothing has changed. -/
theorem folds_eq {code : List Tx.Ins} : (foldsF code).1 = code ↔ (foldsF code).2 = false := by
  constructor
  · intro h
    cases e : (foldsF code).2
    · rfl
    · have := folds_busy e; rw [h] at this; omega
  · exact folds_same
theorem allF_ok : ∀ (n : Nat) {code : List Tx.Ins}, Lay.codeOk code = true → Lay.codeOk (foldAll n code) = true ∧ (foldAll n code).length = code.length
  | 0, code, h => ⟨h, rfl⟩
  | n + 1, code, h => by
    simp only [foldAll]
    split
    · obtain ⟨a, b⟩ := allF_ok n (folds_ok h)
      exact ⟨a, b.trans (folds_len _)⟩
    · exact ⟨h, rfl⟩
end Pg
end Go.Proofs.Ytlbjnlkeagmpoaa

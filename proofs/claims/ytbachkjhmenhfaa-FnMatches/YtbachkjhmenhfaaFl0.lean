/- Lists that rise, and what may come next, plainly. -/
import Derived.Test.YtbachkjhmenhfaaPg0
namespace Go.Proofs.Ytbachkjhmenhfaa
namespace Pg
open Go.ChangeShapes Go.WideShapes Go.ChangeAt Go.RowKit St

/-- A number into a list that rises, once. -/
def putL : List Int → Int → List Int
  | [], n => [n]
  | x :: l, n => if x < n then x :: putL l n else if x = n then x :: l else n :: x :: l
abbrev Rise (l : List Int) : Prop := l.Pairwise (· < ·)
theorem rise_ext : ∀ {l r : List Int}, Rise l → Rise r → (∀ x, x ∈ l ↔ x ∈ r) → l = r
  | [], [], _, _, _ => rfl
  | [], y :: r, _, _, h => absurd ((h y).2 List.mem_cons_self) (by simp)
  | x :: l, [], _, _, h => absurd ((h x).1 List.mem_cons_self) (by simp)
  | x :: l, y :: r, h1, h2, h => by
    obtain ⟨a1, b1⟩ := List.pairwise_cons.1 h1
    obtain ⟨a2, b2⟩ := List.pairwise_cons.1 h2
    have hxy : x = y := by
      rcases List.mem_cons.1 ((h x).1 List.mem_cons_self) with e | e
      · exact e
      · rcases List.mem_cons.1 ((h y).2 List.mem_cons_self) with e' | e'
        · exact e'.symm
        · have := a2 x e; have := a1 y e'; omega
    subst hxy
    have : l = r := rise_ext b1 b2 (fun z => ⟨fun hz => by
      rcases List.mem_cons.1 ((h z).1 (List.mem_cons_of_mem _ hz)) with e | e
      · have := a1 z hz; omega
      · exact e, fun hz => by
      rcases List.mem_cons.1 ((h z).2 (List.mem_cons_of_mem _ hz)) with e | e
      · have := a2 z hz; omega
      · exact e⟩)
    rw [this]
theorem putL_mem (l : List Int) (n x : Int) : x ∈ putL l n ↔ x = n ∨ x ∈ l := by
  induction l with
  | nil => simp [putL]
  | cons y l ih =>
    simp only [putL]
    split
    · rw [List.mem_cons, ih, List.mem_cons]; constructor <;> (intro h; rcases h with h | h | h <;> simp [h])
    · split
      · rename_i h; subst h; simp
      · simp
theorem putL_rise {l : List Int} (h : Rise l) (n : Int) : Rise (putL l n) := by
  induction l with
  | nil => simp [putL]
  | cons y l ih =>
    obtain ⟨a, b⟩ := List.pairwise_cons.1 h
    simp only [putL]
    split
    · rename_i hy
      refine List.pairwise_cons.2 ⟨fun z hz => ?_, ih b⟩
      rcases (putL_mem l n z).1 hz with rfl | hz
      · exact hy
      · exact a z hz
    · split
      · exact h
      · rename_i h1 h2
        refine List.pairwise_cons.2 ⟨fun z hz => ?_, h⟩
        rcases List.mem_cons.1 hz with rfl | hz
        · omega
        · have := a z hz; omega
theorem putL_len (l : List Int) (n : Int) : (putL l n).length ≤ l.length + 1 := by
  induction l with
  | nil => simp [putL]
  | cons y l ih =>
    simp only [putL]
    split
    · simp; omega
    · split <;> simp
/-- Where the number is, or would be. -/
theorem putL_at {l : List Int} {k : Nat} {n : Int} (h1 : ∀ x ∈ l.take k, x < n) (hk : k ≤ l.length) : (∀ x, l[k]? = some x → x = n → putL l n = l) ∧ ((∀ x, l[k]? = some x → n < x) → putL l n = l.take k ++ n :: l.drop k) := by
  induction l generalizing k with
  | nil =>
    have : k = 0 := by simpa using hk
    subst this
    simp [putL]
  | cons y l ih =>
    cases k with
    | zero =>
      refine ⟨fun x hx e => ?_, fun h => ?_⟩
      · simp at hx; subst hx; subst e; simp [putL]
      · have := h y (by simp)
        simp only [putL]
        rw [if_neg (by omega), if_neg (by omega)]
        simp
    | succ k =>
      have hy : y < n := h1 y (by simp)
      obtain ⟨a, b⟩ := ih (k := k) (fun x hx => h1 x (by rw [List.take_succ_cons]; exact List.mem_cons_of_mem _ hx)) (by simpa using hk)
      refine ⟨fun x hx e => ?_, fun h => ?_⟩
      · simp only [putL, hy, if_true]; rw [a x (by simpa using hx) e]
      · simp only [putL, hy, if_true]; rw [b (fun x hx => h x (by simpa using hx))]; simp
theorem foldl_put (m : List Int) : ∀ (l : List Int), Rise l → Rise (m.foldl putL l) ∧ ∀ x, x ∈ m.foldl putL l ↔ x ∈ m ∨ x ∈ l := by
  induction m with
  | nil => intro l h; exact ⟨h, fun x => by simp⟩
  | cons y m ih =>
    intro l h
    obtain ⟨a, b⟩ := ih (putL l y) (putL_rise h y)
    refine ⟨a, fun x => ?_⟩
    rw [List.foldl_cons, b x, putL_mem, List.mem_cons]
    constructor
    · rintro (h | h | h)
      · exact .inl (.inr h)
      · exact .inl (.inl h)
      · exact .inr h
    · rintro ((h | h) | h)
      · exact .inr (.inl h)
      · exact .inl h
      · exact .inr (.inr h)
theorem foldl_put_len (m : List Int) : ∀ (l : List Int), (m.foldl putL l).length ≤ m.length + l.length := by
  induction m with
  | nil => intro l; simp
  | cons y m ih => intro l; have := ih (putL l y); have := putL_len l y; simp only [List.foldl_cons, List.length_cons]; omega
/-- Where one may come next, as the program tells it: also behind the last one. -/
def waysF (i : Tx.Ins) (at' : Nat) : List Nat :=
  if i.1 = 20 then [] else if i.1 = 11 then [i.2.1.toNat] else if i.1 = 12 then [i.2.1.toNat, at' + 1] else [at' + 1]
def insF (code : List Tx.Ins) (i : Nat) : Tx.Ins := code.getD i (0, 0, 0)
theorem mem_putL {x n : Int} : ∀ {l : List Int}, x ∈ putL l n ↔ x ∈ l ∨ x = n
  | [] => by simp [putL]
  | y :: l => by
    unfold putL
    split
    · rw [List.mem_cons, mem_putL (l := l), List.mem_cons]
      constructor
      · rintro (h | h | h)
        · exact .inl (.inl h)
        · exact .inl (.inr h)
        · exact .inr h
      · rintro ((h | h) | h)
        · exact .inl h
        · exact .inr (.inl h)
        · exact .inr (.inr h)
    · split
      · rename_i h1 h2
        subst h2
        constructor
        · exact fun h => .inl h
        · rintro (h | h)
          · exact h
          · rw [h]; exact List.mem_cons_self
      · rw [List.mem_cons]
        constructor
        · rintro (h | h)
          · exact .inr h
          · exact .inl h
        · rintro (h | h)
          · exact .inr h
          · exact .inl h
def nextsF (code : List Tx.Ins) (a : Nat) : List Int :=
  let b : List Int := if (insF code a).1 ≠ 11 ∧ (insF code a).1 ≠ 20 ∧ a + 1 < code.length then [(a : Int) + 1] else []
  if (insF code a).1 = 11 ∨ (insF code a).1 = 12 then putL b (insF code a).2.1 else b
def nextsL (op A : Int) (k n : Nat) : List Int :=
  if op = 11 ∨ op = 12 then putL (if op ≠ 11 ∧ op ≠ 20 ∧ k + 1 < n then [(k : Int) + 1] else []) A else (if op ≠ 11 ∧ op ≠ 20 ∧ k + 1 < n then [(k : Int) + 1] else [])
theorem nexts_is (code : List Tx.Ins) (k : Nat) : nextsF code k = nextsL (insF code k).1 (insF code k).2.1 k code.length := rfl
end Pg
end Go.Proofs.Ytbachkjhmenhfaa

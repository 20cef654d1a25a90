/- Lists that rise, plainly: what is put in once, what sorting and leaving out doubles comes to. -/
import Derived.Test.YthjjfjakldbimabHi0
namespace Go.Proofs.Ythjjfjakldbimab
namespace Pg
open Go.ChangeShapes Go.WideShapes Go.ChangeAt Go.RowKit St

abbrev Rise (l : List Int) : Prop := l.Pairwise (· < ·)
theorem rise_ext : ∀ {l r : List Int}, Rise l → Rise r → (∀ x, x ∈ l ↔ x ∈ r) → l = r
  | [], [], _, _, _ => rfl
  | [], y :: r, _, _, h => absurd ((h y).2 List.mem_cons_self) (by simp)
  | x :: l, [], _, _, h => absurd ((h x).1 List.mem_cons_self) (by simp)
  | x :: l, y :: r, h1, h2, h => by
    obtain ⟨a1, b1⟩ := List.pairwise_cons.1 h1
    obtain ⟨a2, b2⟩ := List.pairwise_cons.1 h2
    have hxy : x = y := by
      rcases List.mem_cons.1 ((h x).1 List.mem_cons_self) with e | e
      · exact e
      · rcases List.mem_cons.1 ((h y).2 List.mem_cons_self) with e' | e'
        · exact e'.symm
        · have := a2 x e; have := a1 y e'; omega
    subst hxy
    have : l = r := rise_ext b1 b2 (fun z => ⟨fun hz => by
      rcases List.mem_cons.1 ((h z).1 (List.mem_cons_of_mem _ hz)) with e | e
      · have := a1 z hz; omega
      · exact e, fun hz => by
      rcases List.mem_cons.1 ((h z).2 (List.mem_cons_of_mem _ hz)) with e | e
      · have := a2 z hz; omega
      · exact e⟩)
    rw [this]
theorem putL_mem (l : List Int) (n x : Int) : x ∈ putL l n ↔ x = n ∨ x ∈ l := by
  induction l with
  | nil => simp [putL]
  | cons y l ih =>
    simp only [putL]
    split
    · rw [List.mem_cons, ih, List.mem_cons]; constructor <;> (intro h; rcases h with h | h | h <;> simp [h])
    · split
      · rename_i h; subst h; simp
      · simp
theorem putL_rise {l : List Int} (h : Rise l) (n : Int) : Rise (putL l n) := by
  induction l with
  | nil => simp [putL]
  | cons y l ih =>
    obtain ⟨a, b⟩ := List.pairwise_cons.1 h
    simp only [putL]
    split
    · rename_i hy
      refine List.pairwise_cons.2 ⟨fun z hz => ?_, ih b⟩
      rcases (putL_mem l n z).1 hz with rfl | hz
      · exact hy
      · exact a z hz
    · split
      · exact h
      · rename_i h1 h2
        refine List.pairwise_cons.2 ⟨fun z hz => ?_, h⟩
        rcases List.mem_cons.1 hz with rfl | hz
        · omega
        · have := a z hz; omega
theorem putL_len (l : List Int) (n : Int) : (putL l n).length ≤ l.length + 1 := by
  induction l with
  | nil => simp [putL]
  | cons y l ih =>
    simp only [putL]
    split
    · simp; omega
    · split <;> simp
/-- Where the number is, or would be. -/
theorem putL_at {l : List Int} {k : Nat} {n : Int} (h1 : ∀ x ∈ l.take k, x < n) (hk : k ≤ l.length) : (∀ x, l[k]? = some x → x = n → putL l n = l) ∧ ((∀ x, l[k]? = some x → n < x) → putL l n = l.take k ++ n :: l.drop k) := by
  induction l generalizing k with
  | nil =>
    have : k = 0 := by simpa using hk
    subst this
    simp [putL]
  | cons y l ih =>
    cases k with
    | zero =>
      refine ⟨fun x hx e => ?_, fun h => ?_⟩
      · simp at hx; subst hx; subst e; simp [putL]
      · have := h y (by simp)
        simp only [putL]
        rw [if_neg (by omega), if_neg (by omega)]
        simp
    | succ k =>
      have hy : y < n := h1 y (by simp)
      obtain ⟨a, b⟩ := ih (k := k) (fun x hx => h1 x (by rw [List.take_succ_cons]; exact List.mem_cons_of_mem _ hx)) (by simpa using hk)
      refine ⟨fun x hx e => ?_, fun h => ?_⟩
      · simp only [putL, hy, if_true]; rw [a x (by simpa using hx) e]
      · simp only [putL, hy, if_true]; rw [b (fun x hx => h x (by simpa using hx))]; simp
theorem foldl_put (m : List Int) : ∀ (l : List Int), Rise l → Rise (m.foldl putL l) ∧ ∀ x, x ∈ m.foldl putL l ↔ x ∈ m ∨ x ∈ l := by
  induction m with
  | nil => intro l h; exact ⟨h, fun x => by simp⟩
  | cons y m ih =>
    intro l h
    obtain ⟨a, b⟩ := ih (putL l y) (putL_rise h y)
    refine ⟨a, fun x => ?_⟩
    rw [List.foldl_cons, b x, putL_mem, List.mem_cons]
    constructor
    · rintro (h | h | h)
      · exact .inl (.inr h)
      · exact .inl (.inl h)
      · exact .inr h
    · rintro ((h | h) | h)
      · exact .inr (.inl h)
      · exact .inl h
      · exact .inr (.inr h)
theorem foldl_put_len (m : List Int) : ∀ (l : List Int), (m.foldl putL l).length ≤ m.length + l.length := by
  induction m with
  | nil => intro l; simp
  | cons y m ih => intro l; have := ih (putL l y); have := putL_len l y; simp only [List.foldl_cons, List.length_cons]; omega
/-- What is selected of each of these, without those that have none. -/
def selsL (p : Prg) (name : Int) (l : List Int) : List Int := (l.map fun i => selF p i name).filter fun s => decide (0 ≤ s)
theorem selsL_snoc (p : Prg) (name : Int) (l : List Int) (x : Int) : selsL p name (l ++ [x]) = selsL p name l ++ (if 0 ≤ selF p x name then [selF p x name] else []) := by
  unfold selsL
  rw [List.map_append, List.filter_append]
  by_cases h : 0 ≤ selF p x name <;> simp [h]
theorem selsL_len (p : Prg) (name : Int) (l : List Int) : (selsL p name l).length ≤ l.length := by
  unfold selsL
  have := List.length_filter_le (fun s : Int => decide (0 ≤ s)) (l.map fun i => selF p i name)
  simpa using this
theorem targL_eq (p : Prg) (c name : Int) : targL p c name = (selsL p name (downL p c)).foldl putL [] := rfl
theorem targL_rise (p : Prg) (c name : Int) : Rise (targL p c name) := (foldl_put _ [] (by simp)).1
theorem targL_mem (p : Prg) (c name x : Int) : x ∈ targL p c name ↔ x ∈ selsL p name (downL p c) := by
  rw [targL_eq, (foldl_put _ [] (by simp)).2]; simp
theorem targL_of {p : Prg} {c name : Int} {r : List Int} (h1 : Rise r) (h2 : ∀ x, x ∈ r ↔ x ∈ selsL p name (downL p c)) : r = targL p c name :=
  rise_ext h1 (targL_rise p c name) (fun x => by rw [h2, targL_mem])

/-- All but what is at j lie in order up to i. -/
def Hole (l : List Int) (i j : Nat) : Prop := ∀ a b x y, a < b → b ≤ i → b ≠ j → l[a]? = some x → l[b]? = some y → x ≤ y
def Srt (l : List Int) (i : Nat) : Prop := ∀ a b x y, a < b → b < i → l[a]? = some x → l[b]? = some y → x ≤ y
theorem Srt.hole {l : List Int} {i : Nat} (h : Srt l i) : Hole l i i := fun a b x y h1 h2 h3 hx hy => h a b x y h1 (by omega) hx hy
theorem Hole.zero {l : List Int} {i : Nat} (h : Hole l i 0) : Srt l (i + 1) := fun a b x y h1 h2 hx hy => h a b x y h1 (by omega) (by omega) hx hy
theorem Hole.done {l : List Int} {i j : Nat} {x y : Int} (h : Hole l i (j + 1)) (hx : l[j]? = some x) (hy : l[j + 1]? = some y) (hxy : x ≤ y) : Srt l (i + 1) := fun a b u v h1 h2 hu hv => by
  by_cases e : b = j + 1
  · subst e
    rw [hy] at hv
    injection hv with hv
    subst hv
    by_cases e' : a = j
    · subst e'; rw [hx] at hu; injection hu with hu; subst hu; exact hxy
    · have := h a j u x (by omega) (by omega) (by omega) hu hx; omega
  · exact h a b u v h1 (by omega) e hu hv
def swapL (l : List Int) (j : Nat) (x y : Int) : List Int := (l.set (j + 1) x).set j y
theorem swapL_len (l : List Int) (j : Nat) (x y : Int) : (swapL l j x y).length = l.length := by simp [swapL]
theorem swapL_at {l : List Int} {j : Nat} {x y : Int} (h : j + 1 < l.length) (k : Nat) : (swapL l j x y)[k]? = if k = j then some y else if k = j + 1 then some x else l[k]? := by
  unfold swapL
  rw [List.getElem?_set]
  by_cases h1 : j = k
  · subst h1; simp; omega
  · rw [if_neg h1, if_neg (fun e => h1 e.symm), List.getElem?_set]
    by_cases h2 : j + 1 = k
    · subst h2; simp; omega
    · rw [if_neg h2, if_neg (fun e => h2 e.symm)]
theorem Hole.swap {l : List Int} {i j : Nat} {x y : Int} (h : Hole l i (j + 1)) (hi : i < l.length) (hj : j + 1 ≤ i) (hx : l[j]? = some x) (hy : l[j + 1]? = some y) (hxy : y < x) : Hole (swapL l j x y) i j := fun a b u v h1 h2 h3 hu hv => by
  rw [swapL_at (by omega)] at hu hv
  rw [if_neg h3] at hv
  by_cases e : b = j + 1
  · subst e
    rw [if_pos rfl] at hv
    injection hv with hv
    subst hv
    by_cases e' : a = j
    · subst e'; rw [if_pos rfl] at hu; injection hu with hu; omega
    · rw [if_neg e', if_neg (by omega)] at hu
      exact h a j u x (by omega) (by omega) (by omega) hu hx
  · rw [if_neg e] at hv
    by_cases e1 : a = j
    · subst e1
      rw [if_pos rfl] at hu
      injection hu with hu
      subst hu
      exact h (a + 1) b y v (by omega) h2 e hy hv
    · rw [if_neg e1] at hu
      by_cases e2 : a = j + 1
      · subst e2
        rw [if_pos rfl] at hu
        injection hu with hu
        subst hu
        exact h j b x v (by omega) h2 e hx hv
      · rw [if_neg e2] at hu
        exact h a b u v h1 h2 e hu hv
theorem swapL_mem {l : List Int} {j : Nat} {x y : Int} (hx : l[j]? = some x) (hy : l[j + 1]? = some y) (z : Int) : z ∈ swapL l j x y ↔ z ∈ l := by
  have hl := (List.getElem?_eq_some_iff.1 hy).1
  constructor
  · intro h
    obtain ⟨k, hk⟩ := List.getElem?_of_mem h
    rw [swapL_at hl] at hk
    split at hk
    · injection hk with hk; subst hk; exact List.mem_of_getElem? hy
    · split at hk
      · injection hk with hk; subst hk; exact List.mem_of_getElem? hx
      · exact List.mem_of_getElem? hk
  · intro h
    obtain ⟨k, hk⟩ := List.getElem?_of_mem h
    by_cases e1 : k = j
    · subst e1
      rw [hx] at hk; injection hk with hk; subst hk
      exact List.mem_of_getElem? (i := k + 1) (by rw [swapL_at hl, if_neg (by omega), if_pos rfl])
    · by_cases e2 : k = j + 1
      · subst e2
        rw [hy] at hk; injection hk with hk; subst hk
        exact List.mem_of_getElem? (i := j) (by rw [swapL_at hl, if_pos rfl])
      · exact List.mem_of_getElem? (i := k) (by rw [swapL_at hl, if_neg e1, if_neg e2]; exact hk)

/-- Strictly rising up to k. -/
def Str (l : List Int) (k : Nat) : Prop := ∀ a b x y, a < b → b < k → l[a]? = some x → l[b]? = some y → x < y
theorem Str.rise {l : List Int} {k : Nat} (h : Str l k) : Rise (l.take k) := by
  refine List.pairwise_iff_getElem.2 ?_
  intro i j hi hj hij
  simp only [List.length_take] at hi hj
  refine h i j _ _ hij (by omega) ?_ ?_
  · rw [List.getElem_take]; exact List.getElem?_eq_getElem _
  · rw [List.getElem_take]; exact List.getElem?_eq_getElem _
theorem Str.one (l : List Int) : Str l 1 := fun a b x y h1 h2 => by omega
/-- One more, which is greater than the one before it. -/
theorem Str.next {l : List Int} {k : Nat} {x y : Int} (h : Str l (k + 1)) (hx : l[k]? = some x) (hy : l[k + 1]? = some y) (hxy : x < y) : Str l (k + 1 + 1) := fun a b u v h1 h2 hu hv => by
  by_cases e : b = k + 1
  · subst e
    rw [hy] at hv; injection hv with hv; subst hv
    by_cases e' : a = k
    · subst e'; rw [hx] at hu; injection hu with hu; omega
    · have := h a k u x (by omega) (by omega) hu hx; omega
  · exact h a b u v h1 (by omega) hu hv
theorem take_mem {l : List Int} {k : Nat} {x : Int} : x ∈ l.take k ↔ ∃ a, a < k ∧ l[a]? = some x := by
  constructor
  · intro h
    obtain ⟨a, ha⟩ := List.getElem?_of_mem h
    rw [List.getElem?_take] at ha
    split at ha
    · exact ⟨a, by assumption, ha⟩
    · simp at ha
  · rintro ⟨a, h1, h2⟩
    exact List.mem_of_getElem? (i := a) (by rw [List.getElem?_take, if_pos h1]; exact h2)
/-- While doubles are left out: the first k of l are those of the first m of s, each once; the rest is as it was. -/
structure Cpt (s l : List Int) (k m : Nat) : Prop where
  len : l.length = s.length
  one : 1 ≤ k
  le : k + 1 ≤ m
  ml : m ≤ s.length
  str : Str l k
  mem : ∀ x, (∃ a, a < k ∧ l[a]? = some x) ↔ ∃ a, a < m ∧ s[a]? = some x
  rest : ∀ q, m ≤ q + 1 → l[q]? = s[q]?
  last : l[k - 1]? = s[m - 1]?
theorem Cpt.start {s : List Int} {k : Nat} {x : Int} (hs : Str s (k + 1)) (hx : s[k]? = some x) (hy : s[k + 1]? = some x) : Cpt s s (k + 1) (k + 1 + 1) :=
  ⟨rfl, by omega, by omega, (List.getElem?_eq_some_iff.1 hy).1, hs, fun z => ⟨fun ⟨a, h1, h2⟩ => ⟨a, by omega, h2⟩, fun ⟨a, h1, h2⟩ => by
    by_cases e : a = k + 1
    · subst e; rw [hy] at h2; injection h2 with h2; subst h2; exact ⟨k, by omega, hx⟩
    · exact ⟨a, by omega, h2⟩⟩, fun _ _ => rfl, by
    show s[k]? = s[k + 1]?
    rw [hx, hy]⟩
theorem Cpt.same {s l : List Int} {k m : Nat} {x : Int} (h : Cpt s l k m) (hx : s[m - 1]? = some x) (hy : s[m]? = some x) : Cpt s l k (m + 1) :=
  have h1 := h.le
  ⟨h.len, h.one, by omega, (List.getElem?_eq_some_iff.1 hy).1, h.str, fun z => by
    rw [h.mem z]
    exact ⟨fun ⟨a, h1, h2⟩ => ⟨a, by omega, h2⟩, fun ⟨a, h1, h2⟩ => by
      by_cases e : a = m
      · subst e; rw [hy] at h2; injection h2 with h2; subst h2; exact ⟨a - 1, by omega, hx⟩
      · exact ⟨a, by omega, h2⟩⟩, fun q hq => h.rest q (by omega), by
    show l[k - 1]? = s[m]?
    rw [h.last, hx, hy]⟩
theorem Cpt.more {s l : List Int} {k m : Nat} {x y : Int} (h : Cpt s l k m) (hx : s[m - 1]? = some x) (hy : s[m]? = some y) (hxy : x < y) : Cpt s (l.set k y) (k + 1) (m + 1) := by
  have h1 := h.le
  have h2 := h.one
  have hm := (List.getElem?_eq_some_iff.1 hy).1
  have hkl : k < l.length := by rw [h.len]; omega
  have hat : ∀ a, (l.set k y)[a]? = if a = k then some y else l[a]? := fun a => by
    rw [List.getElem?_set]
    by_cases e : k = a
    · subst e; simp [hkl]
    · rw [if_neg e, if_neg (fun e' => e e'.symm)]
  have hlast : l[k - 1]? = some x := by rw [h.last, hx]
  refine ⟨by simp [h.len], by omega, by omega, hm, fun a b u v ha hb hu hv => ?_, fun z => ?_, fun q hq => ?_, ?_⟩
  · rw [hat] at hu hv
    by_cases e : b = k
    · subst e
      rw [if_pos rfl] at hv; injection hv with hv; subst hv
      rw [if_neg (by omega)] at hu
      by_cases e' : a = b - 1
      · subst e'; rw [hlast] at hu; injection hu with hu; omega
      · have := h.str a (b - 1) u x (by omega) (by omega) hu hlast; omega
    · rw [if_neg e] at hv
      rw [if_neg (by omega)] at hu
      exact h.str a b u v ha (by omega) hu hv
  · constructor
    · rintro ⟨a, ha, hu⟩
      rw [hat] at hu
      split at hu
      · injection hu with hu; subst hu; exact ⟨m, by omega, hy⟩
      · obtain ⟨b, hb, hb'⟩ := (h.mem z).1 ⟨a, by omega, hu⟩
        exact ⟨b, by omega, hb'⟩
    · rintro ⟨a, ha, hu⟩
      by_cases e : a = m
      · subst e; rw [hy] at hu; injection hu with hu; subst hu; exact ⟨k, by omega, by rw [hat, if_pos rfl]⟩
      · obtain ⟨b, hb, hb'⟩ := (h.mem z).2 ⟨a, by omega, hu⟩
        exact ⟨b, by omega, by rw [hat, if_neg (by omega)]; exact hb'⟩
  · rw [hat, if_neg (by omega)]; exact h.rest q (by omega)
  · show (l.set k y)[k]? = s[m]?
    rw [hat, if_pos rfl, hy]
theorem Cpt.ends {s l : List Int} {k : Nat} (h : Cpt s l k s.length) : Rise (l.take k) ∧ (∀ x, x ∈ l.take k ↔ x ∈ s) ∧ k ≤ l.length := by
  have h1 := h.le
  have h2 := h.len
  refine ⟨h.str.rise, fun x => ?_, by omega⟩
  rw [take_mem, h.mem x, ← take_mem, List.take_length]
theorem Str.ends {s : List Int} (h : Str s s.length) : Rise s := by
  have := h.rise
  rwa [List.take_length] at this
end Pg
end Go.Proofs.Ythjjfjakldbimab

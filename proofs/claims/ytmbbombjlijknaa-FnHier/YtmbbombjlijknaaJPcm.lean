/- Lists that rise, plainly: what is put in once, what sorting and leaving out doubles comes to. -/
import Derived.Test.YtmbbombjlijknaaJPi0
import Derived.Test.YtmbbombjlijknaaJPg3
import Derived.Lib.SliceRun
import Derived.BigQuiet
import Derived.RegionTactic
import Derived.Test.YtmbbombjlijknaaJHi4
import Derived.Test.YtmbbombjlijknaaJDq0
namespace Go.Proofs.Ytmbbombjlijknaa
namespace Pg
open Go.ChangeShapes Go.WideShapes Go.ChangeAt Go.RowKit St

abbrev Rise (l : List Int) : Prop := l.Pairwise (· < ·)
theorem rise_ext : ∀ {l r : List Int}, Rise l → Rise r → (∀ x, x ∈ l ↔ x ∈ r) → l = r
  | [], [], _, _, _ => rfl
  | [], y :: r, _, _, h => absurd ((h y).2 List.mem_cons_self) (by simp)
  | x :: l, [], _, _, h => absurd ((h x).1 List.mem_cons_self) (by simp)
  | x :: l, y :: r, h1, h2, h => by
    obtain ⟨a1, b1⟩ := List.pairwise_cons.1 h1
    obtain ⟨a2, b2⟩ := List.pairwise_cons.1 h2
    have hxy : x = y := by
      rcases List.mem_cons.1 ((h x).1 List.mem_cons_self) with e | e
      · exact e
      · rcases List.mem_cons.1 ((h y).2 List.mem_cons_self) with e' | e'
        · exact e'.symm
        · have := a2 x e; have := a1 y e'; omega
    subst hxy
    have : l = r := rise_ext b1 b2 (fun z => ⟨fun hz => by
      rcases List.mem_cons.1 ((h z).1 (List.mem_cons_of_mem _ hz)) with e | e
      · have := a1 z hz; omega
      · exact e, fun hz => by
      rcases List.mem_cons.1 ((h z).2 (List.mem_cons_of_mem _ hz)) with e | e
      · have := a2 z hz; omega
      · exact e⟩)
    rw [this]
theorem putL_mem (l : List Int) (n x : Int) : x ∈ putL l n ↔ x = n ∨ x ∈ l := by
  induction l with
  | nil => simp [putL]
  | cons y l ih =>
    simp only [putL]
    split
    · rw [List.mem_cons, ih, List.mem_cons]; constructor <;> (intro h; rcases h with h | h | h <;> simp [h])
    · split
      · rename_i h; subst h; simp
      · simp
theorem putL_rise {l : List Int} (h : Rise l) (n : Int) : Rise (putL l n) := by
  induction l with
  | nil => simp [putL]
  | cons y l ih =>
    obtain ⟨a, b⟩ := List.pairwise_cons.1 h
    simp only [putL]
    split
    · rename_i hy
      refine List.pairwise_cons.2 ⟨fun z hz => ?_, ih b⟩
      rcases (putL_mem l n z).1 hz with rfl | hz
      · exact hy
      · exact a z hz
    · split
      · exact h
      · rename_i h1 h2
        refine List.pairwise_cons.2 ⟨fun z hz => ?_, h⟩
        rcases List.mem_cons.1 hz with rfl | hz
        · omega
        · have := a z hz; omega
theorem putL_len (l : List Int) (n : Int) : (putL l n).length ≤ l.length + 1 := by
  induction l with
  | nil => simp [putL]
  | cons y l ih =>
    simp only [putL]
    split
    · simp; omega
    · split <;> simp
/-- Where the number is, or would be. -/
theorem putL_at {l : List Int} {k : Nat} {n : Int} (h1 : ∀ x ∈ l.take k, x < n) (hk : k ≤ l.length) : (∀ x, l[k]? = some x → x = n → putL l n = l) ∧ ((∀ x, l[k]? = some x → n < x) → putL l n = l.take k ++ n :: l.drop k) := by
  induction l generalizing k with
  | nil =>
    have : k = 0 := by simpa using hk
    subst this
    simp [putL]
  | cons y l ih =>
    cases k with
    | zero =>
      refine ⟨fun x hx e => ?_, fun h => ?_⟩
      · simp at hx; subst hx; subst e; simp [putL]
      · have := h y (by simp)
        simp only [putL]
        rw [if_neg (by omega), if_neg (by omega)]
        simp
    | succ k =>
      have hy : y < n := h1 y (by simp)
      obtain ⟨a, b⟩ := ih (k := k) (fun x hx => h1 x (by rw [List.take_succ_cons]; exact List.mem_cons_of_mem _ hx)) (by simpa using hk)
      refine ⟨fun x hx e => ?_, fun h => ?_⟩
      · simp only [putL, hy, if_true]; rw [a x (by simpa using hx) e]
      · simp only [putL, hy, if_true]; rw [b (fun x hx => h x (by simpa using hx))]; simp
theorem foldl_put (m : List Int) : ∀ (l : List Int), Rise l → Rise (m.foldl putL l) ∧ ∀ x, x ∈ m.foldl putL l ↔ x ∈ m ∨ x ∈ l := by
  induction m with
  | nil => intro l h; exact ⟨h, fun x => by simp⟩
  | cons y m ih =>
    intro l h
    obtain ⟨a, b⟩ := ih (putL l y) (putL_rise h y)
    refine ⟨a, fun x => ?_⟩
    rw [List.foldl_cons, b x, putL_mem, List.mem_cons]
    constructor
    · rintro (h | h | h)
      · exact .inl (.inr h)
      · exact .inl (.inl h)
      · exact .inr h
    · rintro ((h | h) | h)
      · exact .inr (.inl h)
      · exact .inl h
      · exact .inr (.inr h)
theorem foldl_put_len (m : List Int) : ∀ (l : List Int), (m.foldl putL l).length ≤ m.length + l.length := by
  induction m with
  | nil => intro l; simp
  | cons y m ih => intro l; have := ih (putL l y); have := putL_len l y; simp only [List.foldl_cons, List.length_cons]; omega
/-- What is selected of each of these, without those that have none. -/
def selsL (p : Prg) (name : Int) (l : List Int) : List Int := (l.map fun i => selF p i name).filter fun s => decide (0 ≤ s)
theorem selsL_snoc (p : Prg) (name : Int) (l : List Int) (x : Int) : selsL p name (l ++ [x]) = selsL p name l ++ (if 0 ≤ selF p x name then [selF p x name] else []) := by
  unfold selsL
  rw [List.map_append, List.filter_append]
  by_cases h : 0 ≤ selF p x name <;> simp [h]
theorem selsL_len (p : Prg) (name : Int) (l : List Int) : (selsL p name l).length ≤ l.length := by
  unfold selsL
  have := List.length_filter_le (fun s : Int => decide (0 ≤ s)) (l.map fun i => selF p i name)
  simpa using this
theorem targL_eq (p : Prg) (c name : Int) : targL p c name = (selsL p name (downL p c)).foldl putL [] := rfl
theorem targL_rise (p : Prg) (c name : Int) : Rise (targL p c name) := (foldl_put _ [] (by simp)).1
theorem targL_mem (p : Prg) (c name x : Int) : x ∈ targL p c name ↔ x ∈ selsL p name (downL p c) := by
  rw [targL_eq, (foldl_put _ [] (by simp)).2]; simp
theorem targL_of {p : Prg} {c name : Int} {r : List Int} (h1 : Rise r) (h2 : ∀ x, x ∈ r ↔ x ∈ selsL p name (downL p c)) : r = targL p c name :=
  rise_ext h1 (targL_rise p c name) (fun x => by rw [h2, targL_mem])

/-- All but what is at j lie in order up to i. -/
def Hole (l : List Int) (i j : Nat) : Prop := ∀ a b x y, a < b → b ≤ i → b ≠ j → l[a]? = some x → l[b]? = some y → x ≤ y
def Srt (l : List Int) (i : Nat) : Prop := ∀ a b x y, a < b → b < i → l[a]? = some x → l[b]? = some y → x ≤ y
theorem Srt.hole {l : List Int} {i : Nat} (h : Srt l i) : Hole l i i := fun a b x y h1 h2 h3 hx hy => h a b x y h1 (by omega) hx hy
theorem Hole.zero {l : List Int} {i : Nat} (h : Hole l i 0) : Srt l (i + 1) := fun a b x y h1 h2 hx hy => h a b x y h1 (by omega) (by omega) hx hy
theorem Hole.done {l : List Int} {i j : Nat} {x y : Int} (h : Hole l i (j + 1)) (hx : l[j]? = some x) (hy : l[j + 1]? = some y) (hxy : x ≤ y) : Srt l (i + 1) := fun a b u v h1 h2 hu hv => by
  by_cases e : b = j + 1
  · subst e
    rw [hy] at hv
    injection hv with hv
    subst hv
    by_cases e' : a = j
    · subst e'; rw [hx] at hu; injection hu with hu; subst hu; exact hxy
    · have := h a j u x (by omega) (by omega) (by omega) hu hx; omega
  · exact h a b u v h1 (by omega) e hu hv
def swapL (l : List Int) (j : Nat) (x y : Int) : List Int := (l.set (j + 1) x).set j y
theorem swapL_len (l : List Int) (j : Nat) (x y : Int) : (swapL l j x y).length = l.length := by simp [swapL]
theorem swapL_at {l : List Int} {j : Nat} {x y : Int} (h : j + 1 < l.length) (k : Nat) : (swapL l j x y)[k]? = if k = j then some y else if k = j + 1 then some x else l[k]? := by
  unfold swapL
  rw [List.getElem?_set]
  by_cases h1 : j = k
  · subst h1; simp; omega
  · rw [if_neg h1, if_neg (fun e => h1 e.symm), List.getElem?_set]
    by_cases h2 : j + 1 = k
    · subst h2; simp; omega
    · rw [if_neg h2, if_neg (fun e => h2 e.symm)]
theorem Hole.swap {l : List Int} {i j : Nat} {x y : Int} (h : Hole l i (j + 1)) (hi : i < l.length) (hj : j + 1 ≤ i) (hx : l[j]? = some x) (hy : l[j + 1]? = some y) (hxy : y < x) : Hole (swapL l j x y) i j := fun a b u v h1 h2 h3 hu hv => by
  rw [swapL_at (by omega)] at hu hv
  rw [if_neg h3] at hv
  by_cases e : b = j + 1
  · subst e
    rw [if_pos rfl] at hv
    injection hv with hv
    subst hv
    by_cases e' : a = j
    · subst e'; rw [if_pos rfl] at hu; injection hu with hu; omega
    · rw [if_neg e', if_neg (by omega)] at hu
      exact h a j u x (by omega) (by omega) (by omega) hu hx
  · rw [if_neg e] at hv
    by_cases e1 : a = j
    · subst e1
      rw [if_pos rfl] at hu
      injection hu with hu
      subst hu
      exact h (a + 1) b y v (by omega) h2 e hy hv
    · rw [if_neg e1] at hu
      by_cases e2 : a = j + 1
      · subst e2
        rw [if_pos rfl] at hu
        injection hu with hu
        subst hu
        exact h j b x v (by omega) h2 e hx hv
      · rw [if_neg e2] at hu
        exact h a b u v h1 h2 e hu hv
theorem swapL_mem {l : List Int} {j : Nat} {x y : Int} (hx : l[j]? = some x) (hy : l[j + 1]? = some y) (z : Int) : z ∈ swapL l j x y ↔ z ∈ l := by
  have hl := (List.getElem?_eq_some_iff.1 hy).1
  constructor
  · intro h
    obtain ⟨k, hk⟩ := List.getElem?_of_mem h
    rw [swapL_at hl] at hk
    split at hk
    · injection hk with hk; subst hk; exact List.mem_of_getElem? hy
    · split at hk
      · injection hk with hk; subst hk; exact List.mem_of_getElem? hx
      · exact List.mem_of_getElem? hk
  · intro h
    obtain ⟨k, hk⟩ := List.getElem?_of_mem h
    by_cases e1 : k = j
    · subst e1
      rw [hx] at hk; injection hk with hk; subst hk
      exact List.mem_of_getElem? (i := k + 1) (by rw [swapL_at hl, if_neg (by omega), if_pos rfl])
    · by_cases e2 : k = j + 1
      · subst e2
        rw [hy] at hk; injection hk with hk; subst hk
        exact List.mem_of_getElem? (i := j) (by rw [swapL_at hl, if_pos rfl])
      · exact List.mem_of_getElem? (i := k) (by rw [swapL_at hl, if_neg e1, if_neg e2]; exact hk)

/-- Strictly rising up to k. -/
def Str (l : List Int) (k : Nat) : Prop := ∀ a b x y, a < b → b < k → l[a]? = some x → l[b]? = some y → x < y
theorem Str.rise {l : List Int} {k : Nat} (h : Str l k) : Rise (l.take k) := by
  refine List.pairwise_iff_getElem.2 ?_
  intro i j hi hj hij
  simp only [List.length_take] at hi hj
  refine h i j _ _ hij (by omega) ?_ ?_
  · rw [List.getElem_take]; exact List.getElem?_eq_getElem _
  · rw [List.getElem_take]; exact List.getElem?_eq_getElem _
theorem Str.one (l : List Int) : Str l 1 := fun a b x y h1 h2 => by omega
/-- One more, which is greater than the one before it. -/
theorem Str.next {l : List Int} {k : Nat} {x y : Int} (h : Str l (k + 1)) (hx : l[k]? = some x) (hy : l[k + 1]? = some y) (hxy : x < y) : Str l (k + 1 + 1) := fun a b u v h1 h2 hu hv => by
  by_cases e : b = k + 1
  · subst e
    rw [hy] at hv; injection hv with hv; subst hv
    by_cases e' : a = k
    · subst e'; rw [hx] at hu; injection hu with hu; omega
    · have := h a k u x (by omega) (by omega) hu hx; omega
  · exact h a b u v h1 (by omega) hu hv
theorem take_mem {l : List Int} {k : Nat} {x : Int} : x ∈ l.take k ↔ ∃ a, a < k ∧ l[a]? = some x := by
  constructor
  · intro h
    obtain ⟨a, ha⟩ := List.getElem?_of_mem h
    rw [List.getElem?_take] at ha
    split at ha
    · exact ⟨a, by assumption, ha⟩
    · simp at ha
  · rintro ⟨a, h1, h2⟩
    exact List.mem_of_getElem? (i := a) (by rw [List.getElem?_take, if_pos h1]; exact h2)
/-- While doubles are left out: the first k of l are those of the first m of s, each once; the rest is as it was. -/
structure Cpt (s l : List Int) (k m : Nat) : Prop where
  len : l.length = s.length
  one : 1 ≤ k
  le : k + 1 ≤ m
  ml : m ≤ s.length
  str : Str l k
  mem : ∀ x, (∃ a, a < k ∧ l[a]? = some x) ↔ ∃ a, a < m ∧ s[a]? = some x
  rest : ∀ q, m ≤ q + 1 → l[q]? = s[q]?
  last : l[k - 1]? = s[m - 1]?
theorem Cpt.start {s : List Int} {k : Nat} {x : Int} (hs : Str s (k + 1)) (hx : s[k]? = some x) (hy : s[k + 1]? = some x) : Cpt s s (k + 1) (k + 1 + 1) :=
  ⟨rfl, by omega, by omega, (List.getElem?_eq_some_iff.1 hy).1, hs, fun z => ⟨fun ⟨a, h1, h2⟩ => ⟨a, by omega, h2⟩, fun ⟨a, h1, h2⟩ => by
    by_cases e : a = k + 1
    · subst e; rw [hy] at h2; injection h2 with h2; subst h2; exact ⟨k, by omega, hx⟩
    · exact ⟨a, by omega, h2⟩⟩, fun _ _ => rfl, by
    show s[k]? = s[k + 1]?
    rw [hx, hy]⟩
theorem Cpt.same {s l : List Int} {k m : Nat} {x : Int} (h : Cpt s l k m) (hx : s[m - 1]? = some x) (hy : s[m]? = some x) : Cpt s l k (m + 1) :=
  have h1 := h.le
  ⟨h.len, h.one, by omega, (List.getElem?_eq_some_iff.1 hy).1, h.str, fun z => by
    rw [h.mem z]
    exact ⟨fun ⟨a, h1, h2⟩ => ⟨a, by omega, h2⟩, fun ⟨a, h1, h2⟩ => by
      by_cases e : a = m
      · subst e; rw [hy] at h2; injection h2 with h2; subst h2; exact ⟨a - 1, by omega, hx⟩
      · exact ⟨a, by omega, h2⟩⟩, fun q hq => h.rest q (by omega), by
    show l[k - 1]? = s[m]?
    rw [h.last, hx, hy]⟩
theorem Cpt.more {s l : List Int} {k m : Nat} {x y : Int} (h : Cpt s l k m) (hx : s[m - 1]? = some x) (hy : s[m]? = some y) (hxy : x < y) : Cpt s (l.set k y) (k + 1) (m + 1) := by
  have h1 := h.le
  have h2 := h.one
  have hm := (List.getElem?_eq_some_iff.1 hy).1
  have hkl : k < l.length := by rw [h.len]; omega
  have hat : ∀ a, (l.set k y)[a]? = if a = k then some y else l[a]? := fun a => by
    rw [List.getElem?_set]
    by_cases e : k = a
    · subst e; simp [hkl]
    · rw [if_neg e, if_neg (fun e' => e e'.symm)]
  have hlast : l[k - 1]? = some x := by rw [h.last, hx]
  refine ⟨by simp [h.len], by omega, by omega, hm, fun a b u v ha hb hu hv => ?_, fun z => ?_, fun q hq => ?_, ?_⟩
  · rw [hat] at hu hv
    by_cases e : b = k
    · subst e
      rw [if_pos rfl] at hv; injection hv with hv; subst hv
      rw [if_neg (by omega)] at hu
      by_cases e' : a = b - 1
      · subst e'; rw [hlast] at hu; injection hu with hu; omega
      · have := h.str a (b - 1) u x (by omega) (by omega) hu hlast; omega
    · rw [if_neg e] at hv
      rw [if_neg (by omega)] at hu
      exact h.str a b u v ha (by omega) hu hv
  · constructor
    · rintro ⟨a, ha, hu⟩
      rw [hat] at hu
      split at hu
      · injection hu with hu; subst hu; exact ⟨m, by omega, hy⟩
      · obtain ⟨b, hb, hb'⟩ := (h.mem z).1 ⟨a, by omega, hu⟩
        exact ⟨b, by omega, hb'⟩
    · rintro ⟨a, ha, hu⟩
      by_cases e : a = m
      · subst e; rw [hy] at hu; injection hu with hu; subst hu; exact ⟨k, by omega, by rw [hat, if_pos rfl]⟩
      · obtain ⟨b, hb, hb'⟩ := (h.mem z).2 ⟨a, by omega, hu⟩
        exact ⟨b, by omega, by rw [hat, if_neg (by omega)]; exact hb'⟩
  · rw [hat, if_neg (by omega)]; exact h.rest q (by omega)
  · show (l.set k y)[k]? = s[m]?
    rw [hat, if_pos rfl, hy]
theorem Cpt.ends {s l : List Int} {k : Nat} (h : Cpt s l k s.length) : Rise (l.take k) ∧ (∀ x, x ∈ l.take k ↔ x ∈ s) ∧ k ≤ l.length := by
  have h1 := h.le
  have h2 := h.len
  refine ⟨h.str.rise, fun x => ?_, by omega⟩
  rw [take_mem, h.mem x, ← take_mem, List.take_length]
theorem Str.ends {s : List Int} (h : Str s s.length) : Rise s := by
  have := h.rise
  rwa [List.take_length] at this
end Pg
end Go.Proofs.Ytmbbombjlijknaa

/- Contracts of the library's sorting of at most twelve numbers, and of its leaving out of doubles. -/
namespace Go.Proofs.Ytmbbombjlijknaa
namespace Pg
open Go.ChangeShapes Go.WideShapes Go.ChangeAt Go.RowKit St

theorem isNaN (x : Int) (w : World) : Calls Try.prog 123 #[.int .i64 x] w fun e w' => e = .returned (.bool false) ∧ w' = w := by
  have hx : (x != x) = false := by simp
  go_enter Try.func123, Try.ntmps123
  go_wp2
  go_ret
  exact ⟨rfl, rfl⟩
theorem cmpLess (x y : Int) (w : World) : Calls Try.prog 100 #[.int .i64 x, .int .i64 y] w fun e w' => e = .returned (.bool (decide (x < y))) ∧ w' = w := by
  go_enter Try.func100, Try.ntmps100
  go_wp2_with fail
  refine (isNaN x _).mono ?_
  rintro e w1 ⟨rfl, rfl⟩
  by_cases h : x < y
  · go_wp2
    go_ret
    exact ⟨retB (by simp [h]), rfl⟩
  · go_wp2
    go_ret
    exact ⟨retB (by simp), rfl⟩
set_option maxHeartbeats 1000000 in
theorem len64 (n : Nat) (hn : n ≤ 12) (w : World) : Calls Try.prog 104 #[.int .u64 (n : Int)] w fun e w' => (∃ r, e = .returned (.int .i64 r)) ∧ w' = w := by
  have h0 : n = 0 ∨ n = 1 ∨ n = 2 ∨ n = 3 ∨ n = 4 ∨ n = 5 ∨ n = 6 ∨ n = 7 ∨ n = 8 ∨ n = 9 ∨ n = 10 ∨ n = 11 ∨ n = 12 := by omega
  rcases h0 with rfl | rfl | rfl | rfl | rfl | rfl | rfl | rfl | rfl | rfl | rfl | rfl | rfl
  all_goals
    go_enter Try.func104, Try.ntmps104
    go_wp2
    go_ret
    exact ⟨⟨_, rfl⟩, rfl⟩
theorem bitsLen (n : Nat) (hn : n ≤ 12) (w : World) : Calls Try.prog 77 #[.int .u64 (n : Int)] w fun e w' => (∃ r, e = .returned (.int .i64 r)) ∧ w' = w := by
  go_enter Try.func77, Try.ntmps77
  go_wp2_with fail
  refine (len64 n hn _).mono ?_
  rintro e w1 ⟨⟨r, rfl⟩, rfl⟩
  go_wp2
  go_ret
  exact ⟨⟨_, rfl⟩, rfl⟩
theorem grown_on {g : Nat} {u v w : World} (h : u.grownBy v (some g)) (hb : Below v.heap.size v w) : u.grownBy w (some g) :=
  ⟨hb.os.trans h.os, hb.tape.trans h.tape, hb.output.trans h.output, Nat.le_trans h.size hb.size, fun k hk hne => (hb.block k (Nat.lt_of_lt_of_le hk h.size)).trans (h.block k hk hne)⟩
theorem grown_set {g : Nat} {u v : World} (h : u.grownBy v (some g)) (o : Nat) (x : Value) : u.grownBy (v.setCell ⟨g, o, none⟩ x) (some g) := by
  have hb := (Below.refl 0 v).setCell (p := ⟨g, o, none⟩) (Nat.zero_le _) x
  exact ⟨hb.os.trans h.os, hb.tape.trans h.tape, hb.output.trans h.output, Nat.le_trans h.size hb.size, fun k hk hne => (Below.heap_setCell v ⟨g, o, none⟩ x k (fun e => hne (by subst e; rfl))).trans (h.block k hk hne)⟩
theorem grown_refl (g : Nat) (u : World) : u.grownBy u (some g) := ⟨rfl, rfl, rfl, Nat.le_refl _, fun _ _ _ => rfl⟩
theorem room_set {w : World} {g n : Nat} (h : Room w g n) (o : Nat) (x : Int) : Room (w.setCell ⟨g, o, none⟩ (.int .i64 x)) g n := fun i hi => by
  obtain ⟨⟨y, hy⟩, hf⟩ := h i hi
  refine ⟨?_, by rw [World.frozen?_setCell]; exact hf⟩
  by_cases e : o = i
  · subst e
    exact ⟨.int .i64 x, World.cell?_setCell_same' _ _ _ (by rw [hy]; rfl)⟩
  · exact ⟨y, (World.cell?_setCell_other w ⟨g, o, none⟩ ⟨g, i, none⟩ (.int .i64 x) (fun e' => e (by injection e'))).trans hy⟩

set_option maxRecDepth 100000 in
set_option maxHeartbeats 4000000 in
theorem insertionSort (g cap : Nat) (l : List Int) (hl : l.length ≤ 12) (w : World) (hr : IRow w g 0 l) (hm : Room w g l.length) :
    Calls Try.prog 94 #[.slice (some ⟨g, 0, none⟩) l.length cap, .int .i64 0, .int .i64 (l.length : Int)] w fun e w' => (∃ v, e = .returned v) ∧ ∃ s : List Int, s.length = l.length ∧ Srt s s.length ∧ (∀ x, x ∈ s ↔ x ∈ l) ∧ IRow w' g 0 s ∧ Room w' g l.length ∧ w.grownBy w' (some g) := by
  have HR : Hid (IRow w g 0 l) := hr
  have HM : Hid (Room w g l.length) := hm
  clear hr hm
  go_enter Try.func94, Try.ntmps94
  go_wp2
  go_loopw [6] (fun v wr => ∃ (i : Nat) (s : List Int), v = .int .i64 (i : Int) ∧ 1 ≤ i ∧ i ≤ l.length + 1 ∧ Hid (s.length = l.length) ∧ Hid (Srt s i) ∧ Hid (∀ x, x ∈ s ↔ x ∈ l) ∧ Hid (IRow wr g 0 s) ∧ Hid (Room wr g l.length) ∧ Hid (w.grownBy wr (some g))) (fun v _ => l.length + 1 - (intOf v).toNat)
  case atStart => exact ⟨1, l, rfl, Nat.le_refl _, by omega, rfl, fun a b x y h1 h2 => by omega, fun _ => Iff.rfl, HR.out, HM.out, grown_refl _ _⟩
  case round =>
    clear HR HM
    obtain ⟨i, s, rfl, hi1, hi2, hsl, hsrt, hmem, hrow, hroom, hgr⟩ := hrel
    by_cases hlt : i < l.length
    · have hli : (i : Int) < (l.length : Int) := by omega
      go_wp2
      go_loopw [7] (fun v wr' => ∃ (j : Nat) (s : List Int), v = .int .i64 (j : Int) ∧ j ≤ i ∧ Hid (s.length = l.length) ∧ Hid (Hole s i j) ∧ Hid (∀ x, x ∈ s ↔ x ∈ l) ∧ Hid (IRow wr' g 0 s) ∧ Hid (Room wr' g l.length) ∧ Hid (w.grownBy wr' (some g))) (fun v _ => (intOf v).toNat)
      case atStart => exact ⟨i, s, rfl, Nat.le_refl _, hsl.out, hsrt.out.hole, hmem.out, hrow.out, hroom.out, hgr.out⟩
      case round =>
        clear hsl hsrt hmem hrow hroom hgr s
        obtain ⟨j, s, rfl, hj, hsl, hhole, hmem, hrow, hroom, hgr⟩ := hrel
        cases j with
        | zero =>
          have HS : Hid (Srt s (i + 1)) := hhole.out.zero
          have e0 : ((0 : Nat) : Int) = 0 := rfl
          rw [e0]
          clear hhole e0
          go_wp2_with fail
          refine wp_region_quiet_below (by kernel_rfl) (by kernel_rfl) ?_
          repeat (go_big_quiet_step (fail))
          refine wpQuiet_nil ?_
          intro _ hw'
          obtain ⟨⟨dq, osq⟩, hw''⟩ := hw'
          subst hw''
          have hbq := below_regrown wr dq osq
          have HROW : Hid (IRow (Sort.grow (redrawn wr dq) osq) g 0 s) := hrow.out.on hbq
          have HROOM : Hid (Room (Sort.grow (redrawn wr dq) osq) g l.length) := hroom.out.on hbq
          have HGR : Hid (w.grownBy (Sort.grow (redrawn wr dq) osq) (some g)) := grown_on hgr.out hbq
          clear hrow hroom hgr hbq
          generalize Sort.grow (redrawn wr dq) osq = w4 at *
          go_wp2
          go_roundw
          case rel => exact ⟨i + 1, s, by go_num, by omega, by omega, hsl.out, HS.out, hmem.out, HROW.out, HROOM.out, HGR.out⟩
          case measure => simp [intOf]; omega
        | succ k =>
          have hk1 : k + 1 < s.length := by rw [hsl.out]; omega
          have hk0 : k < s.length := by omega
          have c1 := hrow.out (k + 1) _ (List.getElem?_eq_getElem hk1)
          have c0 := hrow.out k _ (List.getElem?_eq_getElem hk0)
          have X0 : Hid (s[k]? = some s[k]) := List.getElem?_eq_getElem hk0
          have X1 : Hid (s[k + 1]? = some s[k + 1]) := List.getElem?_eq_getElem hk1
          generalize s[k] = x at *
          generalize s[k + 1] = y at *
          rw [Nat.zero_add] at c0 c1
          have hcast : ((k + 1 : Nat) : Int) = (k : Int) + 1 := by omega
          rw [hcast]
          have hki0 : (0 : Int) ≤ (k : Int) := by omega
          have hki1 : (0 : Int) ≤ (k : Int) + 1 := by omega
          have hki2 : (k : Int) + 1 < (l.length : Int) := by omega
          have hki3 : (k : Int) < (l.length : Int) := by omega
          have hkp : (0 : Int) < (k : Int) + 1 := by omega
          have htn : ((k : Int) + 1).toNat = k + 1 := by omega
          have hsub : (k : Int) + 1 - 1 = (k : Int) := by omega
          have hws : IntKind.i64.wrap (k : Int) = (k : Int) := by simp [IntKind.wrap, IntKind.signed, IntKind.bits]; omega
          have e0 := cell_regrown c0
          have e1 := cell_regrown c1
          clear hcast hk0 hk1
          have cL : ∀ d os, Calls Try.prog 100 #[.int .i64 y, .int .i64 x] (Sort.grow (redrawn wr d) os) fun e w'' => e = .returned (.bool (decide (y < x))) ∧ ∃ p : Regrown, w'' = Sort.grow (redrawn wr p.d) p.os := by
            intro d os
            refine Calls.regrown_of ((cmpLess y x (Sort.grow (redrawn wr d) os)).mono ?_)
            rintro e w' ⟨rfl, rfl⟩
            exact ⟨rfl, Below.refl _ _⟩
          cases hq : decide (y < x)
          · rw [hq] at cL
            simp only [decide_eq_false_iff_not] at hq
            have HS : Hid (Srt s (i + 1)) := hhole.out.done X0.out X1.out (by omega)
            clear hhole hq X0 X1
            go_wp2_with fail
            refine wp_region_quiet_below (by kernel_rfl) (by kernel_rfl) ?_
            repeat (go_big_quiet_step ((go_at_call 100; exact cL _ _)))
            refine wpQuiet_nil ?_
            intro _ hw'
            obtain ⟨⟨dq, osq⟩, hw''⟩ := hw'
            subst hw''
            have hbq := below_regrown wr dq osq
            have HROW : Hid (IRow (Sort.grow (redrawn wr dq) osq) g 0 s) := hrow.out.on hbq
            have HROOM : Hid (Room (Sort.grow (redrawn wr dq) osq) g l.length) := hroom.out.on hbq
            have HGR : Hid (w.grownBy (Sort.grow (redrawn wr dq) osq) (some g)) := grown_on hgr.out hbq
            clear hrow hroom hgr hbq c0 c1 e0 e1 cL
            generalize Sort.grow (redrawn wr dq) osq = w4 at *
            go_wp2
            go_roundw
            case rel => exact ⟨i + 1, s, by go_num, by omega, by omega, hsl.out, HS.out, hmem.out, HROW.out, HROOM.out, HGR.out⟩
            case measure => simp [intOf]; omega
          · rw [hq] at cL
            simp only [decide_eq_true_eq] at hq
            have HSW : Hid (Hole (swapL s k x y) i k) := hhole.out.swap (by rw [hsl.out]; exact hlt) hj X0.out X1.out hq
            have HMW : Hid (∀ z, z ∈ swapL s k x y ↔ z ∈ l) := fun z => (swapL_mem X0.out X1.out z).trans (hmem.out z)
            clear hhole hq X0 X1
            go_wp2_with fail
            refine wp_region_quiet_below (by kernel_rfl) (by kernel_rfl) ?_
            repeat (go_big_quiet_step ((go_at_call 100; exact cL _ _)))
            refine wpQuiet_nil ?_
            intro _ hw'
            obtain ⟨⟨dq, osq⟩, hw''⟩ := hw'
            subst hw''
            have hbq := below_regrown wr dq osq
            have d0 := e0 dq osq
            have d1 := e1 dq osq
            have HROW : Hid (IRow (Sort.grow (redrawn wr dq) osq) g 0 s) := hrow.out.on hbq
            have HROOM : Hid (Room (Sort.grow (redrawn wr dq) osq) g l.length) := hroom.out.on hbq
            have HGR : Hid (w.grownBy (Sort.grow (redrawn wr dq) osq) (some g)) := grown_on hgr.out hbq
            clear hrow hroom hgr hbq e0 e1 cL
            generalize Sort.grow (redrawn wr dq) osq = w4 at *
            clear c0 c1
            obtain ⟨_, f0⟩ := HROOM.out k (by omega)
            obtain ⟨_, f1⟩ := HROOM.out (k + 1) (by omega)
            go_wp2_with fail
            go_region
            have HR2 : Hid (IRow ((w4.drew.setCell ⟨g, k + 1, none⟩ (.int .i64 x)).setCell ⟨g, k, none⟩ (.int .i64 y)) g 0 (swapL s k x y)) := irow_set y (irow_set x (HROW.out.on (Below.refl _ _).drew))
            have HM2 : Hid (Room ((w4.drew.setCell ⟨g, k + 1, none⟩ (.int .i64 x)).setCell ⟨g, k, none⟩ (.int .i64 y)) g l.length) := room_set (room_set (HROOM.out.on (Below.refl _ _).drew) _ _) _ _
            have HG2 : Hid (w.grownBy ((w4.drew.setCell ⟨g, k + 1, none⟩ (.int .i64 x)).setCell ⟨g, k, none⟩ (.int .i64 y)) (some g)) := grown_set (grown_set (grown_on HGR.out (Below.refl _ _).drew) _ _) _ _
            have HL2 : Hid ((swapL s k x y).length = l.length) := by show _ = _; rw [swapL_len]; exact hsl.out
            clear HROW HROOM HGR d0 d1 f0 f1
            go_wp2
            go_roundw
            case rel => exact ⟨k, swapL s k x y, by go_num, by omega, HL2.out, HSW.out, HMW.out, HR2.out, HM2.out, HG2.out⟩
            case measure => simp [intOf]
    · have HN : Hid (Srt s s.length) := by
        show Srt s s.length
        rw [hsl.out]
        intro a b x y h1 h2 hx hy
        exact hsrt.out a b x y h1 (by omega) hx hy
      have hli : ¬ (i : Int) < (l.length : Int) := by omega
      go_wp2
      go_end0
      exact ⟨⟨_, rfl⟩, s, hsl.out, HN.out, hmem.out, hrow.out, hroom.out, hgr.out⟩
/-- A row has been sorted. -/
def Sorted (g : Nat) (l : List Int) (w w' : World) : Prop := ∃ s : List Int, s.length = l.length ∧ Srt s s.length ∧ (∀ x, x ∈ s ↔ x ∈ l) ∧ IRow w' g 0 s ∧ Room w' g l.length ∧ w.grownBy w' (some g)
set_option maxRecDepth 100000 in
set_option maxHeartbeats 1000000 in
theorem pdqSort (g cap : Nat) (l : List Int) (hl : l.length ≤ 12) (lim : Int) (w : World) (hr : IRow w g 0 l) (hm : Room w g l.length) :
    Calls Try.prog 76 #[.slice (some ⟨g, 0, none⟩) l.length cap, .int .i64 0, .int .i64 (l.length : Int), .int .i64 lim] w fun e w' => (∃ v, e = .returned v) ∧ Sorted g l w w' := by
  have HR : Hid (IRow w g 0 l) := hr
  have HM : Hid (Room w g l.length) := hm
  clear hr hm
  have hli : (l.length : Int) ≤ 12 := by omega
  have hws : IntKind.i64.wrap (l.length : Int) = (l.length : Int) := by simp [IntKind.wrap, IntKind.signed, IntKind.bits]; omega
  go_enter Try.func76, Try.ntmps76
  go_wp2
  go_loopw [1, 2] (fun a b wr => a = .int .i64 0 ∧ b = .int .i64 (l.length : Int) ∧ wr = w) (fun _ _ _ => 0)
  case atStart => exact ⟨rfl, rfl, rfl⟩
  case round =>
    obtain ⟨rfl, rfl, rfl⟩ := hrel
    go_wp2_with fail
    refine (insertionSort g cap l hl _ HR.out HM.out).mono ?_
    rintro e w1 ⟨⟨v, rfl⟩, hs⟩
    have HS : Hid (Sorted g l wr w1) := hs
    clear hs
    go_wp2
    refine bodyPost_ret (results_none rfl _ _ _) rfl ?_
    exact ⟨⟨_, rfl⟩, HS.out⟩
set_option maxHeartbeats 1000000 in
theorem slicesSort (g cap : Nat) (l : List Int) (hl : l.length ≤ 12) (w : World) (hr : IRow w g 0 l) (hm : Room w g l.length) :
    Calls Try.prog 50 #[.slice (some ⟨g, 0, none⟩) l.length cap] w fun e w' => (∃ v, e = .returned v) ∧ Sorted g l w w' := by
  have HR : Hid (IRow w g 0 l) := hr
  have HM : Hid (Room w g l.length) := hm
  clear hr hm
  have hwu : IntKind.u64.wrap (l.length : Int) = (l.length : Int) := by simp [IntKind.wrap, IntKind.signed, IntKind.bits]; omega
  go_enter Try.func50, Try.ntmps50
  go_wp2_with fail
  refine (bitsLen l.length hl _).mono ?_
  rintro e w1 ⟨⟨r, rfl⟩, rfl⟩
  go_wp2_with fail
  refine (pdqSort g cap l hl r _ HR.out HM.out).mono ?_
  rintro e w2 ⟨⟨v, rfl⟩, hs⟩
  have HS : Hid (Sorted g l w1 w2) := hs
  clear hs
  go_wp2
  go_end0
  exact ⟨⟨_, rfl⟩, HS.out⟩
end Pg
end Go.Proofs.Ytmbbombjlijknaa

/- Contract of the library's leaving out of doubles. -/
namespace Go.Proofs.Ytmbbombjlijknaa
namespace Pg
open Go.ChangeShapes Go.WideShapes Go.ChangeAt Go.RowKit St

theorem grown_cells {g : Nat} {u : World} : ∀ (vs : List Value) (o : Nat) (v : World), u.grownBy v (some g) → u.grownBy (v.setCells g o vs) (some g)
  | [], _, _, h => h
  | x :: r, o, _, h => grown_cells r (o + 1) _ (grown_set h o x)
set_option maxRecDepth 100000 in
set_option maxHeartbeats 4000000 in
theorem slicesCompact (g cap : Nat) (s : List Int) (hl : s.length ≤ 12) (hcap : s.length ≤ cap) (hs : Srt s s.length) (w : World) (hr : IRow w g 0 s) (hm : Room w g s.length) :
    Calls Try.prog 51 #[.slice (some ⟨g, 0, none⟩) s.length cap] w fun e w' => ∃ r : List Int, e = .returned (.slice (some ⟨g, 0, none⟩) r.length cap) ∧ Rise r ∧ (∀ x, x ∈ r ↔ x ∈ s) ∧ r.length ≤ s.length ∧ IRow w' g 0 r ∧ Room w' g r.length ∧ w.grownBy w' (some g) := by
  have HR : Hid (IRow w g 0 s) := hr
  have HM : Hid (Room w g s.length) := hm
  have HS : Hid (Srt s s.length) := hs
  clear hr hm hs
  by_cases hshort : s.length < 2
  · have hsi : (s.length : Int) < 2 := by omega
    have HE : Hid (Rise s) := by
      show Rise s
      refine List.pairwise_iff_getElem.2 ?_
      intro i j hi hj hij
      omega
    go_enter Try.func51, Try.ntmps51
    go_wp2
    go_ret
    exact ⟨s, rfl, HE.out, fun _ => Iff.rfl, Nat.le_refl _, HR.out, HM.out, grown_refl _ _⟩
  · have hsi : ¬ (s.length : Int) < 2 := by omega
    go_enter Try.func51, Try.ntmps51
    go_wp2
    go_loopw [3] (fun v wr => ∃ k : Nat, v = .int .i64 ((k : Int) + 1) ∧ k + 1 ≤ s.length ∧ Hid (Str s (k + 1)) ∧ Hid (Below w.heap.size w wr)) (fun v _ => s.length - (intOf v).toNat)
    case atStart => exact ⟨0, rfl, by omega, Str.one s, Below.refl _ _⟩
    case round =>
      obtain ⟨k, rfl, hk, hstr, hb⟩ := hrel
      by_cases hlt : k + 1 < s.length
      · have hk0 : k < s.length := by omega
        have R0 : Hid (IRow wr g 0 s) := HR.out.on hb.out
        have M0 : Hid (Room wr g s.length) := HM.out.on hb.out
        have c1 := R0.out (k + 1) _ (List.getElem?_eq_getElem hlt)
        have c0 := R0.out k _ (List.getElem?_eq_getElem hk0)
        have X0 : Hid (s[k]? = some s[k]) := List.getElem?_eq_getElem hk0
        have X1 : Hid (s[k + 1]? = some s[k + 1]) := List.getElem?_eq_getElem hlt
        generalize s[k] = x at *
        generalize s[k + 1] = y at *
        have hxy : x ≤ y := HS.out k (k + 1) x y (by omega) hlt X0.out X1.out
        rw [Nat.zero_add] at c0 c1
        have hki0 : (0 : Int) ≤ (k : Int) := by omega
        have hki1 : (0 : Int) ≤ (k : Int) + 1 := by omega
        have hki2 : (k : Int) + 1 < (s.length : Int) := by omega
        have hki3 : (k : Int) < (s.length : Int) := by omega
        have htn : ((k : Int) + 1).toNat = k + 1 := by omega
        have hsub : (k : Int) + 1 - 1 = (k : Int) := by omega
        have hws : IntKind.i64.wrap (k : Int) = (k : Int) := by simp [IntKind.wrap, IntKind.signed, IntKind.bits]; omega
        have e0 := cell_regrown c0
        have e1 := cell_regrown c1
        by_cases hq : y = x
        · subst hq
          have HC : Hid (Cpt s s (k + 1) (k + 1 + 1)) := Cpt.start hstr.out X0.out X1.out
          clear hstr X0 X1 hxy
          go_wp2_with fail
          refine wp_region_quiet_below (by kernel_rfl) (by kernel_rfl) ?_
          repeat (go_big_quiet_step (fail))
          refine wpQuiet_nil ?_
          intro _ hw'
          obtain ⟨⟨dq, osq⟩, hw''⟩ := hw'
          subst hw''
          have hbq := below_over hb.out (below_regrown wr dq osq)
          have HROW : Hid (IRow (Sort.grow (redrawn wr dq) osq) g 0 s) := HR.out.on hbq
          have HROOM : Hid (Room (Sort.grow (redrawn wr dq) osq) g s.length) := HM.out.on hbq
          have HGR : Hid (w.grownBy (Sort.grow (redrawn wr dq) osq) (some g)) := grown_on (grown_refl _ _) hbq
          clear hb R0 M0 hbq c0 c1 e0 e1
          generalize Sort.grow (redrawn wr dq) osq = w4 at *
          have hkl : (k : Int) + 1 ≤ (s.length : Int) := by omega
          go_wp2
          obtain ⟨d, hd⟩ : ∃ d, s.length - (k + 1) = d := ⟨_, rfl⟩
          obtain ⟨dc, hdc⟩ : ∃ dc, cap - (k + 1) = dc := ⟨_, rfl⟩
          rw [hd, hdc]
          have HD : Hid (s.length = k + 1 + d) := by show _ = _; omega
          have hd1 : 1 ≤ d := by omega
          have hd12 : d ≤ 12 := by omega
          clear hd hdc
          go_loopw [3, 5] (fun a b wr => ∃ (q kk : Nat) (l : List Int), a = .int .i64 (kk : Int) ∧ b = .int .i64 ((q : Int) + 1) ∧ q + 1 ≤ d ∧ kk ≤ k + 1 + q ∧ Hid (Cpt s l kk (k + 1 + (q + 1))) ∧ Hid (IRow wr g 0 l) ∧ Hid (Room wr g s.length) ∧ Hid (w.grownBy wr (some g))) (fun _ b _ => d + 1 - (intOf b).toNat)
          case atStart => exact ⟨0, k + 1, s, by simp, rfl, hd1, Nat.le_refl _, HC.out, HROW.out, HROOM.out, HGR.out⟩
          case round =>
            clear HC HROW HROOM HGR HR HM
            obtain ⟨q, kk, l, rfl, rfl, hq, hkk, hc, hrow, hroom, hgr⟩ := hrel
            have hcl := hc.out.len
            by_cases hlt2 : q + 1 < d
            · have hm : k + 1 + (q + 1) < s.length := by rw [HD.out]; omega
              have hm0 : k + 1 + q < s.length := by omega
              have X1 : Hid (s[k + 1 + (q + 1)]? = some s[k + 1 + (q + 1)]) := List.getElem?_eq_getElem hm
              have X0 : Hid (s[k + 1 + (q + 1) - 1]? = some s[k + 1 + q]) := List.getElem?_eq_getElem hm0
              have c1 := hrow.out (k + 1 + (q + 1)) _ ((hc.out.rest _ (by omega)).trans X1.out)
              have c0 := hrow.out (k + 1 + q) _ ((hc.out.rest _ (by omega)).trans X0.out)
              have hxy : s[k + 1 + q] ≤ s[k + 1 + (q + 1)] := HS.out (k + 1 + q) (k + 1 + (q + 1)) _ _ (by omega) hm X0.out X1.out
              generalize s[k + 1 + q] = x at *
              generalize s[k + 1 + (q + 1)] = y' at *
              rw [Nat.zero_add] at c0 c1
              have hqi0 : (0 : Int) ≤ (q : Int) := by omega
              have hqi1 : (0 : Int) ≤ (q : Int) + 1 := by omega
              have hqi2 : (q : Int) + 1 < (d : Int) := by omega
              have hqi3 : (q : Int) < (d : Int) := by omega
              have hqn : ((q : Int) + 1).toNat = q + 1 := by omega
              have hqs : (q : Int) + 1 - 1 = (q : Int) := by omega
              have hqw : IntKind.i64.wrap (q : Int) = (q : Int) := by simp [IntKind.wrap, IntKind.signed, IntKind.bits]; omega
              have e0 := cell_regrown c0
              have e1 := cell_regrown c1
              by_cases hq2 : y' = x
              · subst hq2
                have hqb : (y' != y') = false := by simp
                have HC2 : Hid (Cpt s l kk (k + 1 + (q + 1 + 1))) := hc.out.same X0.out X1.out
                clear hc X0 X1 hxy
                go_wp2_with fail
                refine wp_region_quiet_below (by kernel_rfl) (by kernel_rfl) ?_
                repeat (go_big_quiet_step (fail))
                refine wpQuiet_nil ?_
                intro _ hw'
                obtain ⟨⟨dq, osq⟩, hw''⟩ := hw'
                subst hw''
                have hbq := below_regrown wr dq osq
                have HR2 : Hid (IRow (Sort.grow (redrawn wr dq) osq) g 0 l) := hrow.out.on hbq
                have HM2 : Hid (Room (Sort.grow (redrawn wr dq) osq) g s.length) := hroom.out.on hbq
                have HG2 : Hid (w.grownBy (Sort.grow (redrawn wr dq) osq) (some g)) := grown_on hgr.out hbq
                clear hrow hroom hgr hbq c0 c1 e0 e1
                generalize Sort.grow (redrawn wr dq) osq = w5 at *
                go_wp2
                go_roundw
                case rel => exact ⟨q + 1, kk, l, rfl, by go_num, by omega, by omega, HC2.out, HR2.out, HM2.out, HG2.out⟩
                case measure => simp [intOf]; omega
              · have hqb : (y' != x) = true := by simpa using hq2
                have HC2 : Hid (Cpt s (l.set kk y') (kk + 1) (k + 1 + (q + 1 + 1))) := hc.out.more X0.out X1.out (by omega)
                have hkl : (kk : Int) < (s.length : Int) := by omega
                have hkl0 : (0 : Int) ≤ (kk : Int) := by omega
                clear hc X0 X1 hxy
                go_wp2_with fail
                refine wp_region_quiet_below (by kernel_rfl) (by kernel_rfl) ?_
                repeat (go_big_quiet_step (fail))
                refine wpQuiet_nil ?_
                intro _ hw'
                obtain ⟨⟨dq, osq⟩, hw''⟩ := hw'
                subst hw''
                have hbq := below_regrown wr dq osq
                have HR1 : Hid (IRow (Sort.grow (redrawn wr dq) osq) g 0 l) := hrow.out.on hbq
                have HM1 : Hid (Room (Sort.grow (redrawn wr dq) osq) g s.length) := hroom.out.on hbq
                have HG1 : Hid (w.grownBy (Sort.grow (redrawn wr dq) osq) (some g)) := grown_on hgr.out hbq
                have d1 := e1 dq osq
                clear hrow hroom hgr hbq c0 c1 e0 e1
                generalize Sort.grow (redrawn wr dq) osq = w5 at *
                obtain ⟨⟨z, f0⟩, f1⟩ := HM1.out kk (by omega)
                have HR2 : Hid (IRow (w5.setCell ⟨g, kk, none⟩ (.int .i64 y')) g 0 (l.set kk y')) := irow_set y' HR1.out
                have HM2 : Hid (Room (w5.setCell ⟨g, kk, none⟩ (.int .i64 y')) g s.length) := room_set HM1.out _ _
                have HG2 : Hid (w.grownBy (w5.setCell ⟨g, kk, none⟩ (.int .i64 y')) (some g)) := grown_set HG1.out _ _
                clear HR1 HM1 HG1
                go_wp2
                go_roundw
                case rel => exact ⟨q + 1, kk + 1, l.set kk y', by go_num, by go_num, by omega, by omega, HC2.out, HR2.out, HM2.out, HG2.out⟩
                case measure => simp [intOf]; omega
            · have hqd : k + 1 + (q + 1) = s.length := by rw [HD.out]; omega
              have HC2 : Hid (Cpt s l kk s.length) := by rw [← hqd]; exact hc.out
              have hqi2 : ¬ (q : Int) + 1 < (d : Int) := by omega
              have hkl : (kk : Int) ≤ (s.length : Int) := by omega
              have hkl0 : (0 : Int) ≤ (kk : Int) := by omega
              have hkc : (kk : Int) ≤ (cap : Int) := by omega
              have hcl2 : ∀ ty, (Builtin.clear_ #[32] ty #[.slice (some ⟨g, kk, none⟩) (s.length - kk) (cap - kk)]).run Try.prog wr = .ok (.tuple #[]) (wr.setCells g kk (List.replicate (s.length - kk) (.int .i64 0))) := fun ty =>
                Lib.run_clear_slice wr 32 2 ty (.int .i64 0) Try.underlying32 Try.zeroValue2 rfl rfl g kk (s.length - kk) (cap - kk) (by omega) (fun j hj => by obtain ⟨⟨z, hz⟩, _⟩ := hroom.out (kk + j) (by omega); rw [hz]; rfl) (fun j hj => (hroom.out (kk + j) (by omega)).2)
              have HR2 : Hid (IRow (wr.setCells g kk (List.replicate (s.length - kk) (.int .i64 0))) g 0 (l.take kk)) := fun j x hj => by
                rw [List.getElem?_take] at hj
                split at hj
                · rw [World.cell?_setCells_out g _ kk wr ⟨g, 0 + j, none⟩ (fun _ _ => .inl (by show 0 + j < kk; omega))]
                  exact hrow.out j x hj
                · simp at hj
              have HM2 : Hid (Room (wr.setCells g kk (List.replicate (s.length - kk) (.int .i64 0))) g kk) := fun j hj => by
                obtain ⟨⟨z, hz⟩, hf⟩ := hroom.out j (by omega)
                exact ⟨⟨z, by rw [World.cell?_setCells_out g _ kk wr ⟨g, j, none⟩ (fun _ _ => .inl hj)]; exact hz⟩, by rw [World.frozen?_setCells]; exact hf⟩
              have HG2 : Hid (w.grownBy (wr.setCells g kk (List.replicate (s.length - kk) (.int .i64 0))) (some g)) := grown_cells _ _ _ hgr.out
              obtain ⟨hE1, hE2, hE3⟩ := HC2.out.ends
              have HL : Hid ((l.take kk).length = kk) := by show _ = _; rw [List.length_take]; omega
              have HE1 : Hid (Rise (l.take kk)) := hE1
              have HE2 : Hid (∀ x, x ∈ l.take kk ↔ x ∈ s) := hE2
              clear hE1 hE2 hE3 hc HC2 hrow hroom hgr
              go_wp2
              go_ret
              exact ⟨l.take kk, by rw [HL.out]; rfl, HE1.out, HE2.out, by rw [HL.out]; omega, HR2.out, by rw [HL.out]; exact HM2.out, HG2.out⟩
        · have hqb : (y == x) = false := by simpa using hq
          have HN : Hid (Str s (k + 1 + 1)) := hstr.out.next X0.out X1.out (by omega)
          clear hstr X0 X1 hxy
          go_wp2_with fail
          refine wp_region_quiet_below (by kernel_rfl) (by kernel_rfl) ?_
          repeat (go_big_quiet_step (fail))
          refine wpQuiet_nil ?_
          intro _ hw'
          obtain ⟨⟨dq, osq⟩, hw''⟩ := hw'
          subst hw''
          have HBQ : Hid (Below w.heap.size w (Sort.grow (redrawn wr dq) osq)) := below_over hb.out (below_regrown wr dq osq)
          clear hb R0 M0 c0 c1 e0 e1
          generalize Sort.grow (redrawn wr dq) osq = w4 at *
          go_wp2
          go_roundw
          case rel => exact ⟨k + 1, by go_num, by omega, HN.out, HBQ.out⟩
          case measure => simp [intOf]; omega
      · have hke : k + 1 = s.length := by omega
        have HE : Hid (Rise s) := Str.ends (by rw [← hke]; exact hstr.out)
        have hki2 : ¬ (k : Int) + 1 < (s.length : Int) := by omega
        clear hstr
        go_wp2
        go_ret
        exact ⟨s, rfl, HE.out, fun _ => Iff.rfl, Nat.le_refl _, HR.out.on hb.out, HM.out.on hb.out, grown_on (grown_refl _ _) hb.out⟩
end Pg
end Go.Proofs.Ytmbbombjlijknaa

/- Contract of the program's Targets. -/
namespace Go.Proofs.Ytmbbombjlijknaa
namespace Pg
open Go.ChangeShapes Go.WideShapes Go.ChangeAt Go.RowKit Go.Shelf St
attribute [local go_sem] Oper.semAt_some

def targA (p : Prg) (c n : Int) : List Int := if okP p && inB p c then targL p c n else []
theorem targL_len (p : Prg) (c n : Int) (h : p.length ≤ 6) : (targL p c n).length ≤ 6 := by
  rw [targL_eq]
  have h1 := foldl_put_len (selsL p n (downL p c)) []
  have h2 := selsL_len p n (downL p c)
  have h3 := downL_len p c h
  simp at h1
  omega
theorem targA_len (p : Prg) (c n : Int) : (targA p c n).length ≤ 24 := by
  unfold targA; split
  · rename_i h
    have := targL_len p c n (okP_len (okIn h).1).2; omega
  · simp
theorem selF_bd (p : Prg) (c n : Int) : selF p c n = -1 ∨ (0 ≤ selF p c n ∧ selF p c n < (p.length : Int)) := by
  unfold selF
  cases h : (upL p c).find? (hasM p n) with
  | none => exact .inl rfl
  | some x => exact .inr (upL_mem (List.mem_of_find?_eq_some h))
theorem room_at {u w : World} {g n : Nat} (hg : w.heap[g]? = u.heap[g]?) (h : Room u g n) : Room w g n := fun i hi => by
  obtain ⟨⟨x, hx⟩, hf⟩ := h i hi
  exact ⟨⟨x, (World.cell?_of_block (w := u) hg).trans hx⟩, (World.frozen?_of_block (w := u) hg).trans hf⟩
theorem Kp.sub {n₀ : Nat} {bs bs' : List Nat} {W W' : World} (h : Kp n₀ bs W W') (hs : ∀ b ∈ bs', b ∈ bs) : Kp n₀ bs' W W' := ⟨h.1, fun b hb hl => h.2 b (hs b hb) hl⟩
theorem grown_below {n₀ g : Nat} {u v : World} (h : u.grownBy v (some g)) (hg : n₀ ≤ g) (hn : n₀ ≤ u.heap.size) : Below n₀ u v := ⟨h.os, h.tape, h.output, h.size, fun k hk => h.block k (by omega) (fun e => by injection e with e; omega)⟩
theorem own_blockT {W : World} {n₀ g n cp : Nat} {e : TypeId} {xs : List Value} (h : W.ownsRow n₀ e 1 (.slice (some ⟨g, 0, none⟩) n cp) n xs) : n ≤ cp ∧ n₀ ≤ g ∧ ∃ cur, W.heap[g]? = some (.cells cur e (0, 0)) := by
  obtain ⟨_, ⟨h, _⟩ | ⟨g', cap', cur, hv, h1, h2, h3, _⟩⟩ := h
  · simp at h
  · injection hv with e1 e2 e3
    injection e1 with e1
    injection e1 with e1
    subst e1 e3
    exact ⟨h3, h1, cur, h2⟩

set_option maxRecDepth 100000 in
set_option maxHeartbeats 4000000 in
theorem implTargets (B : Nat) (p : Prg) (a : Option Addr) (cap : Nat) (t nm : Int) (hsp : SmallP p) (w : World) (hp : SK front B w (.slice a p.length cap) p) :
    Calls Try.prog 22 #[.agg #[.slice a p.length cap], .int .i64 t, .int .i64 nm] w fun e w' => ∃ v, e = .returned v ∧ GInt w.heap.size w' v (targA p t nm) ∧ Below w.heap.size w w' := by
  obtain ⟨i0, hif, hz0, hz1, hz2⟩ := info_parts infoN
  have HP : Hid (SK front B w (.slice a p.length cap) p) := hp
  have HSP : Hid (SmallP p) := hsp
  clear hp hsp
  obtain ⟨V, hV⟩ : ∃ V, V = ((w.alloc (.cells #[.slice a p.length cap] 26)).alloc (.cells #[.int .i64 nm] 2)).alloc (.cells #[] 2) := ⟨_, rfl⟩
  have GV : Hid (Grow w.heap.size V (.slice (some ⟨w.heap.size + 1 + 1, 0, none⟩) 0 0) []) := by
    have h := (grow_start ((w.alloc (.cells #[.slice a p.length cap] 26)).alloc (.cells #[.int .i64 nm] 2))).base' (B' := w.heap.size) (by simp; omega)
    simp only [World.size_alloc] at h
    rw [hV]; exact h
  have HZV : Hid (V.heap.size = w.heap.size + 1 + 1 + 1) := by show _ = _; rw [hV]; simp
  obtain ⟨Y, hY⟩ : ∃ Y, Y = V.alloc (.cells #[.slice (some ⟨w.heap.size + 1 + 1, 0, none⟩) 0 0] 32) := ⟨_, rfl⟩
  have hwY : Below w.heap.size w Y := by rw [hY, hV]; exact ((((Below.refl _ w).alloc (Nat.le_refl _) _).alloc (by simp) _).alloc (by simp; omega) _).alloc (by simp; omega) _
  have PY : Hid (Boxed Y w.heap.size 26 (.slice a p.length cap)) := by rw [hY, hV]; exact (((Boxed.new w _ _).alloc _).alloc _).alloc _
  have NY : Hid (Boxed Y (w.heap.size + 1) 2 (.int .i64 nm)) := by
    have h := ((Boxed.new (w.alloc (.cells #[.slice a p.length cap] 26)) 2 (.int .i64 nm)).alloc (.cells #[] 2)).alloc (.cells #[.slice (some ⟨w.heap.size + 1 + 1, 0, none⟩) 0 0] 32)
    simp only [World.size_alloc] at h
    rw [hY, hV]; exact h
  have AY : Hid (Boxed Y (w.heap.size + 1 + 1 + 1) 32 (.slice (some ⟨w.heap.size + 1 + 1, 0, none⟩) 0 0) ∧ Grow w.heap.size Y (.slice (some ⟨w.heap.size + 1 + 1, 0, none⟩) 0 0) []) := by
    rw [hY]
    refine ⟨?_, GV.out.on ((Below.refl _ _).alloc (Nat.le_refl _) _)⟩
    have h := Boxed.new V 32 (.slice (some ⟨w.heap.size + 1 + 1, 0, none⟩) 0 0)
    rw [HZV.out] at h
    exact h
  refine (callsIn_wide (n := 4)).1 ?_
  refine callsIn_of_wp_marks Try.func22 rfl trivial ?_ rfl
  simp only [Try.ntmps22, List.size_toArray, List.length_cons, List.length_nil, Nat.reduceAdd, Nat.reduceSub, Array.replicate_succ, Array.replicate_zero, List.push_toArray, List.append_toArray, List.nil_append, List.cons_append]
  gi_wp2_with fail
  rw [← hV, ← hY]
  clear hV hY GV HZV
  refine ⟨trivial, ?_⟩
  refine (callsIn_wide.2 (isRightClass B p a cap t HSP.out Y (SK.on HP.out (Keep.of hwY)))).mono ?_
  rintro e w1 ⟨rfl, hb1⟩
  have hw1 : Below w.heap.size w w1 := below_over hwY hb1
  have P1 : Hid (Boxed w1 w.heap.size 26 (.slice a p.length cap)) := (hb1.block _ PY.out.lt).trans PY.out
  have N1 : Hid (Boxed w1 (w.heap.size + 1) 2 (.int .i64 nm)) := (hb1.block _ NY.out.lt).trans NY.out
  have A1 : Hid (Boxed w1 (w.heap.size + 1 + 1 + 1) 32 (.slice (some ⟨w.heap.size + 1 + 1, 0, none⟩) 0 0) ∧ Grow w.heap.size w1 (.slice (some ⟨w.heap.size + 1 + 1, 0, none⟩) 0 0) []) := ⟨(hb1.block _ AY.out.1.lt).trans AY.out.1, AY.out.2.on hb1⟩
  have p1 := P1.out.cell
  clear PY AY NY hb1 hwY
  cases hok : (okP p && inB p t)
  · have HN : Hid (targA p t nm = []) := by show _ = _; unfold targA; rw [hok]; rfl
    have c1 := A1.out.1.cell
    have HG : Hid (Grow w.heap.size w1 (.slice (some ⟨w.heap.size + 1 + 1, 0, none⟩) 0 0) []) := A1.out.2
    gi_wp2
    refine ⟨_, results_tmp rfl _ _ _, _, rfl, by rw [HN.out]; exact HG.out.gint, hw1⟩
  · have HN : Hid (targA p t nm = targL p t nm) := by show _ = _; unfold targA; rw [hok]; rfl
    obtain ⟨hk, h0, h1⟩ := okIn hok
    have h6 := (okP_len hk).2
    have HSU : Hid (SupOk p p.length) := okP_sup hk
    clear hk hok
    have hlw : w.heap.size + 1 + 1 + 1 < w1.heap.size := A1.out.1.lt
    obtain ⟨c, rfl⟩ := Int.eq_ofNat_of_zero_le h0
    have hcp : c < p.length := by omega
    gi_wp2_with (refine ⟨trivial, ?_⟩; gi_at_call 41; refine (downFrom_in _ a p.length cap (c : Int) _).mono ?_; rintro e w' ⟨rfl, rfl⟩)
    have b3 := Boxed.new w1 26 (.slice a p.length cap)
    have b4 := Boxed.new (w1.alloc (.cells #[.slice a p.length cap] 26)) 2 (.int .i64 (c : Int))
    simp only [World.size_alloc] at b4
    have hbZ : Below w1.heap.size w1 ((w1.alloc (.cells #[.slice a p.length cap] 26)).alloc (.cells #[.int .i64 (c : Int)] 2)) := ((Below.refl _ w1).alloc (Nat.le_refl _) _).alloc (by simp) _
    have hB0 : Below w.heap.size w ((w1.alloc (.cells #[.slice a p.length cap] 26)).alloc (.cells #[.int .i64 (c : Int)] 2)) := below_over hw1 hbZ
    have A2 : Hid (BoxN w.heap.size (w.heap.size + 1 + 1 + 1) [w1.heap.size + 1, w1.heap.size, w.heap.size, w.heap.size + 1] ((w1.alloc (.cells #[.slice a p.length cap] 26)).alloc (.cells #[.int .i64 (c : Int)] 2)) []) := ⟨_, (hbZ.block _ A1.out.1.lt).trans A1.out.1, A1.out.2.on hbZ, by simp [Value.ownBlock]; omega⟩
    have hzw := hw1.size
    have P2 : Hid (Boxed ((w1.alloc (.cells #[.slice a p.length cap] 26)).alloc (.cells #[.int .i64 (c : Int)] 2)) w.heap.size 26 (.slice a p.length cap)) := (P1.out.alloc _).alloc _
    have N2 : Hid (Boxed ((w1.alloc (.cells #[.slice a p.length cap] 26)).alloc (.cells #[.int .i64 (c : Int)] 2)) (w.heap.size + 1) 2 (.int .i64 nm)) := (N1.out.alloc _).alloc _
    refine wpIn_rangeFunc_ownF rfl (show 1 ≤ 4 by omega) (gf := 74) (lb := #[.pointer (some ⟨w1.heap.size + 1, 0, none⟩), .pointer (some ⟨w1.heap.size, 0, none⟩)]) rfl trivial (enters_of Try.func74 (by kernel_rfl) rfl)
      (down_stops _ (by omega) (w1.heap.size + 1) w1.heap.size B p a cap c hcp h6 HSU.out w _ HP.out hB0 b4 (b3.alloc _)) kp_t (kp_b (by simp; omega) (by simp; omega)) (Below.refl _ _) (fun _ => rfl)
      (fun pre W => (BoxN w.heap.size (w.heap.size + 1 + 1 + 1) [w1.heap.size + 1, w1.heap.size, w.heap.size, w.heap.size + 1] W (selsL p nm (vals pre)) ∧ w1.heap.size + 1 < W.heap.size ∧ Boxed W w.heap.size 26 (.slice a p.length cap) ∧ Boxed W (w.heap.size + 1) 2 (.int .i64 nm)) ∧ Below w.heap.size w W)
      (fun _ _ _ => False)
      (OwnFrom.and (Own.from (fun s X Y row hs hg hr => ⟨boxN_own w.heap.size (w.heap.size + 1 + 1 + 1) [w1.heap.size + 1, w1.heap.size, w.heap.size, w.heap.size + 1] (fun x : List (Cl p.length) => selsL p nm (vals x)) s X Y row hs.1 hg hr, Nat.lt_of_lt_of_le hs.2.1 hg.size, boxed_own w.heap.size 26 (fun _ : List (Cl p.length) => .slice a p.length cap) s X Y row hs.2.2.1 hg hr, boxed_own (w.heap.size + 1) 2 (fun _ : List (Cl p.length) => .int .i64 nm) s X Y row hs.2.2.2 hg hr⟩) _) (ownFrom_below (Nat.le_refl _) (by simp; omega)))
      (fun _ _ _ _ _ hs _ _ => hs)
      ⟨⟨A2.out, by simp, P2.out, N2.out⟩, hB0⟩
      (fun x => { tmps := #[.agg #[.slice a p.length cap], .int .i64 (c : Int), .int .i64 nm, .pointer (some ⟨w.heap.size, 0, none⟩), undef, .pointer (some ⟨w.heap.size + 1, 0, none⟩), .slice none 0 0, .pointer (some ⟨w.heap.size + 1 + 1 + 1, 0, none⟩), .int .i64 x.1, undef, .slice (some ⟨w.heap.size + 1 + 1, 0, none⟩) 0 0, .agg #[.slice a p.length cap], .int .i64 (c : Int), .bool true, .bool false, undef, .agg #[.slice a p.length cap], .int .i64 (c : Int), .func (.func 74) #[] #[.pointer (some ⟨w1.heap.size + 1, 0, none⟩), .pointer (some ⟨w1.heap.size, 0, none⟩)], .int .i64 x.1, undef, undef, undef, undef, undef, undef, undef, undef, undef, undef, undef, undef, undef, undef], defers := [] }) ?assign ?body ?done ?stop
    case assign =>
      intro l x W K hK
      gi_wp2
      exact hK
    case body =>
      rintro l pre x W ⟨⟨⟨v, hv, hg, hoff⟩, hzW, hbP, hbN⟩, hB⟩ hlt
      clear A2 P2 N2 A1 P1 N1 p1 b3 b4 hbZ hB0
      obtain ⟨g, cp, rfl⟩ := hg.form
      have hcP := hbP.cell
      have hcN := hbN.cell
      have HVS : Hid (selsL p nm (vals (pre ++ [x])) = selsL p nm (vals pre) ++ (if 0 ≤ selF p x.1 nm then [selF p x.1 nm] else [])) := by show _ = _; rw [vals_snoc, selsL_snoc]
      have hlv : (selsL p nm (vals pre)).length < 6 := by
        have h1 := selsL_len p nm (vals pre)
        have h2 : (vals pre).length = pre.length := by simp [vals]
        omega
      generalize selsL p nm (vals pre) = L at *
      gi_wp2_with fail
      refine ⟨trivial, ?_⟩
      refine (CallsIn.inRound l (callsIn_wide.2 (selectedFrom B p a cap x.1 nm (by have := x.2.1; omega) x.2.2 HSP.out h6 HSU.out W (SK.on HP.out (Keep.of hB))))).mono ?_
      rintro e w2 ⟨rfl, hb2⟩
      have hB2 : Below w.heap.size w w2 := below_over hB hb2
      have hv2 : Boxed w2 (w.heap.size + 1 + 1 + 1) 32 (.slice (some ⟨g, 0, none⟩) L.length cp) := (hb2.block _ hv.lt).trans hv
      have hg2 : Grow w.heap.size w2 (.slice (some ⟨g, 0, none⟩) L.length cp) L := hg.on hb2
      have hbP2 : Boxed w2 w.heap.size 26 (.slice a p.length cap) := (hb2.block _ hbP.lt).trans hbP
      have hbN2 : Boxed w2 (w.heap.size + 1) 2 (.int .i64 nm) := (hb2.block _ hbN.lt).trans hbN
      have hz2' : w1.heap.size + 1 < w2.heap.size := Nat.lt_of_lt_of_le hzW hb2.size
      have HK : Hid (KeepsOthers W w2) := keeps_of hb2
      have HKP : Hid (Kp w.heap.size [w1.heap.size + 1, w1.heap.size] W w2) := Kp.on hb2 hB.size
      have hc := hv2.cell
      clear hb2 hv hg hbP hbN hcP hcN hzW
      rcases selF_bd p x.1 nm with hsel | ⟨hs0, hs1⟩
      · have HE : Hid (selsL p nm (vals (pre ++ [x])) = L) := by show _ = _; rw [HVS.out, hsel]; simp
        rw [hsel]
        clear HVS hsel
        gi_wp2
        exact ⟨HK.out, HKP.out, ⟨by rw [HE.out]; exact ⟨_, hv2, hg2, hoff⟩, hz2', hbP2, hbN2⟩, hB2⟩
      · have HE : Hid (selsL p nm (vals (pre ++ [x])) = L ++ [selF p x.1 nm]) := by show _ = _; rw [HVS.out, if_pos hs0]
        have hnb : (selF p x.1 nm != -1) = true := by simp; omega
        generalize selF p x.1 nm = y at *
        clear HVS hs1
        gi_wp2_with (gi_at_builtin; refine wpListIn_append_own_at _ rfl _ _ 32 rfl w.heap.size 2 i0 (.int .i64 0) 1 8 Try.underlying32 hif hz0 hz1 hz2 rfl (by decide) _ _ _ rfl (hg2.1.alloc _) ⟨w2.heap.size, 0, none⟩ 1 1 [.int .i64 y] rfl rfl (cell_one_new _ _ _) (by simp [Value.oneCell']) (by unfold maxLen; omega) (by omega) (by have := hB2.size; simp; omega) ?_; intro v' w3 hown' hgrow hnil hat; obtain ⟨g', cap', rfl⟩ := ownsRow_succ hown'; obtain ⟨hv1, hbn, hkp, hk2, hb3⟩ := boxN_app (x := y) hv2 hg2 hoff (by simp; omega) hB2.size (by omega) hown' hgrow (by simp) hat; have hc1 := hv1.cell; have hf1 := hv1.frozen)
        exact ⟨HK.out.trans hk2, kp_t HKP.out (hkp.sub (by simp)), ⟨by rw [HE.out]; exact hbn, Nat.lt_of_lt_of_le hz2' hb3.size, hkp.boxed (by simp) hbP2, hkp.boxed (by simp) hbN2⟩, hB2.trans hb3⟩
    case done =>
      rintro D ys W hD hys ⟨⟨⟨v, hv, hg, _⟩, _⟩, hB⟩ hK
      obtain ⟨g, cp, rfl⟩ := hg.form
      have hc := hv.cell
      have HL : Hid (selsL p nm (vals ys) = selsL p nm (downL p (c : Int))) := by show _ = _; rw [hys]
      have hl6 : (selsL p nm (vals ys)).length ≤ 12 := by
        rw [HL.out]
        have h1 := selsL_len p nm (downL p (c : Int))
        have h2 := downL_len p (c : Int) h6
        omega
      obtain ⟨hcp2, hgb, cur, hcur⟩ := own_blockT hg.1
      obtain ⟨_, _, hgv, _, hgs, hir, hrm⟩ := hg.gint
      injection hgv with e1 e2 e3
      injection e1 with e1
      injection e1 with e1
      subst e1 e3
      have HIR : Hid (IRow W g 0 (selsL p nm (vals ys))) := hir
      have HRM : Hid (Room W g (selsL p nm (vals ys)).length) := hrm
      have hDg : D ≠ g := fun e => by subst e; rw [hK] at hcur; cases hcur
      have hbAg : w.heap.size + 1 + 1 + 1 ≠ g := fun e => hv.not_row (by decide) hg.1 (by rw [e]; rfl)
      clear A2 P2 N2 A1 P1 N1 p1 b3 b4 hbZ hB0 hir hrm hg hys e2 hcur
      generalize selsL p nm (vals ys) = L at *
      gi_wp2_with fail
      refine ⟨trivial, ?_⟩
      refine (callsIn_wide.2 (slicesSort g cp L hl6 W HIR.out HRM.out)).mono ?_
      rintro e w2 ⟨⟨vv, rfl⟩, s, hsl, hsrt, hsm, hsr, hsM, hsg⟩
      have hv2 : Boxed w2 (w.heap.size + 1 + 1 + 1) 32 (.slice (some ⟨g, 0, none⟩) L.length cp) := (hsg.block _ hv.lt (fun e => by injection e with e; exact hbAg e)).trans hv
      have hK2 : w2.heap[D]? = some (.deferred (some [])) := (hsg.block D (Array.getElem?_eq_some_iff.1 hK).1 (fun e => by injection e with e; exact hDg e)).trans hK
      have hB2 : Below w.heap.size w w2 := hB.trans (grown_below hsg hgb hB.size)
      have HSR : Hid (IRow w2 g 0 s) := hsr
      have HSM : Hid (Room w2 g s.length) := by rw [hsl]; exact hsM
      have HSS : Hid (Srt s s.length) := hsrt
      have HMM : Hid (∀ x, x ∈ s ↔ x ∈ L) := hsm
      have hgs2 : g < w2.heap.size := Nat.lt_of_lt_of_le hgs hsg.size
      rw [← hsl] at hv2 hl6 hcp2
      have hc2 := hv2.cell
      clear hsr hsM hsrt hsm hv hc hK hB hsg HIR HRM hgs hsl
      gi_wp2_with fail
      refine ⟨trivial, ?_⟩
      refine (callsIn_wide.2 (slicesCompact g cp s hl6 hcp2 HSS.out w2 HSR.out HSM.out)).mono ?_
      rintro e w3 ⟨r, rfl, hrise, hrm, hrl, hrr, hrM, hrg⟩
      have hK3 : w3.heap[D]? = some (.deferred (some [])) := (hrg.block D (Array.getElem?_eq_some_iff.1 hK2).1 (fun e => by injection e with e; exact hDg e)).trans hK2
      have hB3 : Below w.heap.size w w3 := hB2.trans (grown_below hrg hgb hB2.size)
      have HR : Hid (r = targL p (c : Int) nm) := targL_of hrise (fun x => by rw [hrm x, HMM.out x, HL.out])
      have HRR : Hid (IRow w3 g 0 r) := hrr
      have HRM : Hid (Room w3 g r.length) := hrM
      have hgs3 : g < w3.heap.size := Nat.lt_of_lt_of_le hgs2 hrg.size
      clear hrr hrM hrm hrise hrg hK2 hB2 HSR HSM HSS HMM hv2 hc2
      gi_wp2
      refine ⟨by simp, .inl ⟨_, _, rfl, run_takeDeferred hK3, ?_⟩⟩
      have hgD : (w3.putObj D (.deferred none)).heap[g]? = w3.heap[g]? := World.putObj_heap_other (Ne.symm hDg)
      refine ⟨_, results_tmp rfl _ _ _, .slice (some ⟨g, 0, none⟩) r.length cp, rfl, ?_, hB3.trans (belowK_b (w := w) (Nat.le_refl _) w3 D _ _ (by simp at hD; omega) hK3 rfl rfl)⟩
      rw [HN.out, ← HR.out]
      refine ⟨g, cp, rfl, hgb, ?_, fun j x hj => (World.cell?_of_block (w := w3) hgD).trans (HRR.out j x hj), room_at hgD HRM.out⟩
      have := (grownBy_putObj' w3 D (.deferred none)).size
      omega
    case stop =>
      rintro D c pre W _ _ h _
      exact h.elim
end Pg
end Go.Proofs.Ytmbbombjlijknaa

/- Contracts of the other side's putting of a number into a list that rises, and of its Targets. -/
namespace Go.Proofs.Ytmbbombjlijknaa
namespace Pg
open Go.ChangeShapes Go.WideShapes Go.ChangeAt Go.RowKit St

/-- A row of numbers at the front of a block. -/
def Lst (w : World) (v : Value) (l : List Int) : Prop := ∃ g c, v = .slice (some ⟨g, 0, none⟩) l.length c ∧ l.length ≤ c ∧ g < w.heap.size ∧ IRow w g 0 l
theorem Lst.on {u w : World} {v : Value} {l : List Int} (h : Lst u v l) (hb : Below u.heap.size u w) : Lst w v l := by
  obtain ⟨g, c, h1, h2, h3, h4⟩ := h
  exact ⟨g, c, h1, h2, Nat.lt_of_lt_of_le h3 hb.size, h4.on hb⟩
theorem Grow.lst {B : Nat} {w : World} {v : Value} {l : List Int} (h : Grow B w v l) : Lst w v l := by
  obtain ⟨g, c, hv, h1, h2, h3, _⟩ := h.gint
  have h' := h.1
  rw [hv] at h'
  exact ⟨g, c, hv, (own_blockT h').1, h2, h3⟩
theorem irow_nums {w : World} {g o : Nat} {l : List Int} (h : IRow w g o l) : ∀ j u, (nums l)[j]? = some u → w.cell? ((⟨g, o, none⟩ : Addr).add j) = some u := by
  intro j u hu
  rw [Go.WideShapes.add_plain]
  simp only [nums, List.getElem?_map, Option.map_eq_some_iff] at hu
  obtain ⟨x, hx, rfl⟩ := hu
  exact h j x hx
theorem irow_drop {w : World} {g k : Nat} {l : List Int} (h : IRow w g 0 l) : IRow w g k (l.drop k) := fun j x hj => by
  have := h (k + j) x (by rw [← hj, List.getElem?_drop])
  rw [Nat.zero_add] at this
  exact this
theorem irow_take {w : World} {g k : Nat} {l : List Int} (h : IRow w g 0 l) : IRow w g 0 (l.take k) := fun j x hj => by
  rw [List.getElem?_take] at hj
  split at hj
  · exact h j x hj
  · simp at hj
theorem grow_app {w : World} {B n : Nat} {v : Value} {a b : List Int} (h : w.ownsRow B 2 1 v n (nums a ++ nums b)) (hn : n = (a ++ b).length) (hv : v ≠ .slice none 0 0) : Grow B w v (a ++ b) := by
  refine ⟨?_, hv⟩
  have e : nums (a ++ b) = nums a ++ nums b := by simp [nums]
  rw [e, ← hn]
  exact h

set_option maxRecDepth 100000 in
set_option maxHeartbeats 2000000 in
theorem l1Put (l : List Int) (v : Value) (n : Int) (hl : l.length ≤ 12) (w : World) (h : Lst w v l) :
    Calls Try.prog 53 #[v, .int .i64 n] w fun e w' => ∃ v', e = .returned v' ∧ Lst w' v' (putL l n) ∧ Below w.heap.size w w' := by
  obtain ⟨i0, hif, hz0, hz1, hz2⟩ := info_parts infoN
  obtain ⟨g, cap, rfl, hcap, hgw, hir⟩ := h
  have HR : Hid (IRow w g 0 l) := hir
  clear hir
  go_enter Try.func53, Try.ntmps53
  go_wp2
  go_loopw [5] (fun i wr => ∃ k : Nat, k ≤ l.length ∧ i = .int .i64 (k : Int) ∧ Hid (∀ x ∈ l.take k, x < n) ∧ wr = w) (fun i _ => l.length - (intOf i).toNat)
  case atStart => exact ⟨0, Nat.zero_le _, rfl, fun x hx => by simp at hx, rfl⟩
  case round =>
    obtain ⟨k, hk, rfl, hlo, rfl⟩ := hrel
    have HAT : Hid ((∀ x, l[k]? = some x → x = n → putL l n = l) ∧ ((∀ x, l[k]? = some x → n < x) → putL l n = l.take k ++ n :: l.drop k)) := putL_at hlo.out hk
    have tail : ∀ (hne : ∀ x, l[k]? = some x → n < x), Hid (putL l n = (l.take k ++ [n]) ++ l.drop k) := fun hne => by show _ = _; rw [HAT.out.2 hne]; simp
    by_cases hlt : k < l.length
    · have c0 := HR.out k _ (List.getElem?_eq_getElem hlt)
      have X0 : Hid (l[k]? = some l[k]) := List.getElem?_eq_getElem hlt
      have HT : Hid (l[k] < n → ∀ x ∈ l.take (k + 1), x < n) := fun h x hx => by
        rw [List.take_succ_eq_append_getElem hlt] at hx
        rcases List.mem_append.1 hx with hx | hx
        · exact hlo.out x hx
        · simp at hx; subst hx; exact h
      generalize l[k] = y at *
      rw [Nat.zero_add] at c0
      have hki : (k : Int) < (l.length : Int) := by omega
      by_cases hy : y < n
      · have HL : Hid (∀ x ∈ l.take (k + 1), x < n) := HT.out hy
        clear HT hlo HAT tail X0
        go_wp2
        go_roundw
        case rel => exact ⟨k + 1, by omega, by go_num, HL.out, by simp⟩
        case measure => simp [intOf]; omega
      · by_cases hyn : y = n
        · subst hyn
          have HE : Hid (putL l y = l) := HAT.out.1 y X0.out rfl
          clear HT hlo HAT tail X0
          go_wp2
          go_ret
          exact ⟨_, rfl, by rw [HE.out]; exact ⟨g, cap, rfl, hcap, hgw, HR.out⟩, Below.refl _ _⟩
        · have HE := tail (fun x hx => by rw [X0.out] at hx; injection hx with hx; omega)
          have hyb : (y == n) = false := by simpa using hyn
          clear HT hlo HAT tail X0
          have hkl : (k : Int) ≤ (l.length : Int) := by omega
          have hk0 : (0 : Int) ≤ (k : Int) := by omega
          have hkc : (k : Int) ≤ (cap : Int) := by omega
          have HLT : Hid ((l.take k).length = k) := by show _ = _; rw [List.length_take]; omega
          have HLD : Hid ((l.drop k).length = l.length - k) := by show _ = _; rw [List.length_drop]
          have hO1 : (wr.alloc (.cells #[] 2)).ownsRow wr.heap.size 2 1 (.slice (some ⟨wr.heap.size, 0, none⟩) 0 0) 0 [] := World.ownsRow_made wr #[] 0 (Nat.le_refl _) (by decide) (by simp)
          have HO1 : Hid ((wr.alloc (.cells #[] 2)).ownsRow wr.heap.size 2 1 (.slice (some ⟨wr.heap.size, 0, none⟩) 0 0) 0 []) := hO1
          clear hO1
          go_wp2_with (at_builtin; refine wpList_append_own _ rfl _ _ 32 rfl wr.heap.size 2 i0 (.int .i64 0) 1 8 Try.underlying32 hif hz0 hz1 hz2 rfl (by decide) _ _ _ rfl HO1.out ⟨g, k, none⟩ (l.length - k) (cap - k) (nums (l.drop k)) rfl (by simp [nums]) (irow_nums (irow_drop (HR.out.on ((Below.refl _ _).alloc (Nat.le_refl _) _)))) (nums_one _) (by unfold maxLen; omega) (by omega) (by simp) ?_)
          intro v1 w1 hown1 hgrow1 hnil1
          have hb1 : Below wr.heap.size wr w1 := ((Below.refl _ _).alloc (Nat.le_refl _) _).grown hgrow1 (by simp) (fun q hq => by simp [Value.ownBlock] at hq; omega)
          have HG1 : Hid (Grow wr.heap.size w1 v1 (l.drop k)) := grow_app (a := []) hown1 (by simp) (fun h => by first | exact hnil1 h | exact absurd (hnil1.1 h).1 (by simp))
          clear hown1 hgrow1 hnil1 HO1
          obtain ⟨g1, c1, rfl⟩ := HG1.out.form
          have HI1 : Hid (IRow w1 g1 0 (l.drop k)) := by
            obtain ⟨_, _, hv, _, _, hi, _⟩ := HG1.out.gint
            injection hv with e1 e2 e3
            injection e1 with e1
            injection e1 with e1
            subst e1
            exact hi
          rw [HLD.out]
          have HR1 : Hid (IRow w1 g 0 l) := HR.out.on hb1
          have hO2 : (w1.alloc (.cells #[] 2)).ownsRow w1.heap.size 2 1 (.slice (some ⟨w1.heap.size, 0, none⟩) 0 0) 0 [] := World.ownsRow_made w1 #[] 0 (Nat.le_refl _) (by decide) (by simp)
          have HO2 : Hid ((w1.alloc (.cells #[] 2)).ownsRow w1.heap.size 2 1 (.slice (some ⟨w1.heap.size, 0, none⟩) 0 0) 0 []) := hO2
          clear hO2
          go_wp2_with (at_builtin; refine wpList_append_own _ rfl _ _ 32 rfl w1.heap.size 2 i0 (.int .i64 0) 1 8 Try.underlying32 hif hz0 hz1 hz2 rfl (by decide) _ _ _ rfl HO2.out ⟨g, 0, none⟩ k cap (nums (l.take k)) rfl (by simp [nums]; omega) (irow_nums (irow_take (HR1.out.on ((Below.refl _ _).alloc (Nat.le_refl _) _)))) (nums_one _) (by unfold maxLen; omega) (by omega) (by simp) ?_)
          intro v2 w2 hown2 hgrow2 hnil2
          have hb2 : Below w1.heap.size w1 w2 := ((Below.refl _ _).alloc (Nat.le_refl _) _).grown hgrow2 (by simp) (fun q hq => by simp [Value.ownBlock] at hq; omega)
          have HG2 : Hid (Grow w1.heap.size w2 v2 (l.take k)) := grow_app (a := []) hown2 (by simp; omega) (fun h => by first | exact hnil2 h | exact absurd (hnil2.1 h).1 (by simp))
          clear hown2 hgrow2 hnil2 HO2
          obtain ⟨g2, c2, rfl⟩ := HG2.out.form
          rw [HLT.out]
          have HX2 : Hid (w2.ownsRow w1.heap.size 2 1 (.slice (some ⟨g2, 0, none⟩) k c2) k (nums (l.take k))) := by have h := HG2.out.1; rw [HLT.out] at h; exact h
          have hz2' : w1.heap.size ≤ w2.heap.size := hb2.size
          go_wp2_with (at_builtin; refine wpList_append_own _ rfl _ _ 32 rfl w1.heap.size 2 i0 (.int .i64 0) 1 8 Try.underlying32 hif hz0 hz1 hz2 rfl (by decide) _ _ _ rfl (HX2.out.alloc _) ⟨w2.heap.size, 0, none⟩ 1 1 [.int .i64 n] rfl rfl (cell_one_new _ _ _) (by simp [Value.oneCell']) (by unfold maxLen; omega) (by omega) (by simp; omega) ?_)
          intro v3 w3 hown3 hgrow3 hnil3
          have hb3 : Below w1.heap.size w1 w3 := (hb2.alloc hb2.size _).grown hgrow3 (by simp; omega) (fun q hq => by simp [Value.ownBlock] at hq; subst hq; exact (HX2.out.lt g2 rfl).1)
          have HG3 : Hid (Grow w1.heap.size w3 v3 (l.take k ++ [n])) := grow_app (b := [n]) hown3 (by rw [List.length_append, HLT.out]; rfl) (fun h => by first | exact hnil3 h | exact absurd (hnil3.1 h).1 (by simp))
          clear hown3 hgrow3 hnil3 HG2 hb2 HX2
          obtain ⟨g3, c3, rfl⟩ := HG3.out.form
          have HL3 : Hid ((l.take k ++ [n]).length = k + 1) := by show _ = _; rw [List.length_append, HLT.out]; rfl
          rw [HL3.out]
          have HX3 : Hid (w3.ownsRow w1.heap.size 2 1 (.slice (some ⟨g3, 0, none⟩) (k + 1) c3) (k + 1) (nums (l.take k ++ [n]))) := by have h := HG3.out.1; rw [HL3.out] at h; exact h
          have hz3 : w1.heap.size ≤ w3.heap.size := hb3.size
          have HI3 : Hid (IRow w3 g1 0 (l.drop k)) := HI1.out.on hb3
          go_wp2_with (at_builtin; refine wpList_append_own _ rfl _ _ 32 rfl w1.heap.size 2 i0 (.int .i64 0) 1 8 Try.underlying32 hif hz0 hz1 hz2 rfl (by decide) _ _ _ rfl HX3.out ⟨g1, 0, none⟩ (l.length - k) c1 (nums (l.drop k)) rfl (by simp [nums]) (irow_nums HI3.out) (nums_one _) (by unfold maxLen; omega) (by omega) hz3 ?_)
          intro v4 w4 hown4 hgrow4 hnil4
          have hb4 : Below w1.heap.size w1 w4 := hb3.grown hgrow4 hz3 (fun q hq => by simp [Value.ownBlock] at hq; subst hq; exact (HX3.out.lt g3 rfl).1)
          have HG4 : Hid (Grow w1.heap.size w4 v4 ((l.take k ++ [n]) ++ l.drop k)) := grow_app hown4 (by rw [List.length_append, HLD.out, HL3.out]) (fun h => by first | exact hnil4 h | exact absurd (hnil4.1 h).1 (by simp))
          have HB4 : Hid (Below wr.heap.size wr w4) := below_over hb1 hb4
          clear hown4 hgrow4 hnil4 hb4 hb3 hb1
          go_wp2
          go_ret
          exact ⟨_, rfl, by rw [HE.out]; exact HG4.out.lst, HB4.out⟩
    · have HE := tail (fun x hx => by have := (List.getElem?_eq_some_iff.1 hx).1; omega)
      have hke : k = l.length := by omega
      subst hke
      rw [List.take_length, List.drop_length, List.append_nil] at HE
      clear hlo HAT tail
      have hkc : (l.length : Int) ≤ (cap : Int) := by omega
      rcases Nat.eq_or_lt_of_le hcap with hcc | hcc
      · subst hcc
        have HO1 : Hid ((wr.alloc (.cells #[] 2)).ownsRow wr.heap.size 2 1 (.slice (some ⟨wr.heap.size, 0, none⟩) 0 0) 0 []) := World.ownsRow_made wr #[] 0 (Nat.le_refl _) (by decide) (by simp)
        go_wp2_with (at_builtin; refine wpList_append_own _ rfl _ _ 32 rfl wr.heap.size 2 i0 (.int .i64 0) 1 8 Try.underlying32 hif hz0 hz1 hz2 rfl (by decide) _ _ _ rfl HO1.out _ 0 _ [] rfl rfl (by intro j u h; simp at h) (by simp) (by unfold maxLen; omega) (by omega) (by simp) ?_)
        intro v1 w1 hown1 hgrow1 hnil1
        have hb1 : Below wr.heap.size wr w1 := ((Below.refl _ _).alloc (Nat.le_refl _) _).grown hgrow1 (by simp) (fun q hq => by simp [Value.ownBlock] at hq; omega)
        have HG1 : Hid (Grow wr.heap.size w1 v1 []) := grow_app (a := []) (b := []) hown1 (by simp) (fun h => by first | exact hnil1 h | exact absurd (hnil1.1 h).1 (by simp))
        clear hown1 hgrow1 hnil1 HO1
        obtain ⟨g1, c1, rfl⟩ := HG1.out.form
        rw [List.length_nil]
        have HR1 : Hid (IRow w1 g 0 l) := HR.out.on hb1
        have HO2 : Hid ((w1.alloc (.cells #[] 2)).ownsRow w1.heap.size 2 1 (.slice (some ⟨w1.heap.size, 0, none⟩) 0 0) 0 []) := World.ownsRow_made w1 #[] 0 (Nat.le_refl _) (by decide) (by simp)
        go_wp2_with (at_builtin; refine wpList_append_own _ rfl _ _ 32 rfl w1.heap.size 2 i0 (.int .i64 0) 1 8 Try.underlying32 hif hz0 hz1 hz2 rfl (by decide) _ _ _ rfl HO2.out ⟨g, 0, none⟩ l.length _ (nums l) rfl (by simp [nums]) (irow_nums (HR1.out.on ((Below.refl _ _).alloc (Nat.le_refl _) _))) (nums_one _) (by unfold maxLen; omega) (by omega) (by simp) ?_)
        intro v2 w2 hown2 hgrow2 hnil2
        have hb2 : Below w1.heap.size w1 w2 := ((Below.refl _ _).alloc (Nat.le_refl _) _).grown hgrow2 (by simp) (fun q hq => by simp [Value.ownBlock] at hq; omega)
        have HG2 : Hid (Grow w1.heap.size w2 v2 l) := grow_app (a := []) hown2 (by simp) (fun h => by first | exact hnil2 h | exact absurd (hnil2.1 h).1 (by simp))
        clear hown2 hgrow2 hnil2 HO2
        obtain ⟨g2, c2, rfl⟩ := HG2.out.form
        have hz2' : w1.heap.size ≤ w2.heap.size := hb2.size
        go_wp2_with (at_builtin; refine wpList_append_own _ rfl _ _ 32 rfl w1.heap.size 2 i0 (.int .i64 0) 1 8 Try.underlying32 hif hz0 hz1 hz2 rfl (by decide) _ _ _ rfl (HG2.out.1.alloc _) ⟨w2.heap.size, 0, none⟩ 1 1 [.int .i64 n] rfl rfl (cell_one_new _ _ _) (by simp [Value.oneCell']) (by unfold maxLen; omega) (by omega) (by simp; omega) ?_)
        intro v3 w3 hown3 hgrow3 hnil3
        have hb3 : Below w1.heap.size w1 w3 := (hb2.alloc hb2.size _).grown hgrow3 (by simp; omega) (fun q hq => by simp [Value.ownBlock] at hq; subst hq; exact (HG2.out.1.lt g2 rfl).1)
        have HG3 : Hid (Grow w1.heap.size w3 v3 (l ++ [n])) := grow_next hown3 (fun h => by first | exact hnil3 h | exact absurd (hnil3.1 h).1 (by simp))
        clear hown3 hgrow3 hnil3 HG2 hb2
        obtain ⟨g3, c3, rfl⟩ := HG3.out.form
        have HL3 : Hid ((l ++ [n]).length = l.length + 1) := by show _ = _; rw [List.length_append]; rfl
        rw [HL3.out]
        have HX3 : Hid (w3.ownsRow w1.heap.size 2 1 (.slice (some ⟨g3, 0, none⟩) (l.length + 1) c3) (l.length + 1) (nums (l ++ [n]))) := by have h := HG3.out.1; rw [HL3.out] at h; exact h
        have hz3 : w1.heap.size ≤ w3.heap.size := hb3.size
        go_wp2_with (at_builtin; refine wpList_append_own _ rfl _ _ 32 rfl w1.heap.size 2 i0 (.int .i64 0) 1 8 Try.underlying32 hif hz0 hz1 hz2 rfl (by decide) _ _ _ rfl HX3.out ⟨g1, 0, none⟩ 0 c1 [] rfl rfl (by intro j u h; simp at h) (by simp) (by unfold maxLen; omega) (by omega) hz3 ?_)
        intro v4 w4 hown4 hgrow4 hnil4
        have hb4 : Below w1.heap.size w1 w4 := hb3.grown hgrow4 hz3 (fun q hq => by simp [Value.ownBlock] at hq; subst hq; exact (HX3.out.lt g3 rfl).1)
        have HG4 : Hid (Grow w1.heap.size w4 v4 (l ++ [n])) := ⟨by rw [HL3.out]; exact hown4, fun h => by first | exact hnil4 h | exact absurd (hnil4.1 h).1 (by simp)⟩
        have HB4 : Hid (Below wr.heap.size wr w4) := below_over hb1 hb4
        clear hown4 hgrow4 hnil4 hb4 hb3 hb1
        go_wp2
        go_ret
        exact ⟨_, rfl, by rw [HE.out]; exact HG4.out.lst, HB4.out⟩
      · have hcc1 : ¬ (cap - l.length = 0) := by omega
        have hcc2 : (l.length : Int) < (cap : Int) := by omega
        have hcc3 : cap ≠ l.length := by omega
        have HO1 : Hid ((wr.alloc (.cells #[] 2)).ownsRow wr.heap.size 2 1 (.slice (some ⟨wr.heap.size, 0, none⟩) 0 0) 0 []) := World.ownsRow_made wr #[] 0 (Nat.le_refl _) (by decide) (by simp)
        go_wp2_with (at_builtin; refine wpList_append_own _ rfl _ _ 32 rfl wr.heap.size 2 i0 (.int .i64 0) 1 8 Try.underlying32 hif hz0 hz1 hz2 rfl (by decide) _ _ _ rfl HO1.out _ 0 _ [] rfl rfl (by intro j u h; simp at h) (by simp) (by unfold maxLen; omega) (by omega) (by simp) ?_)
        intro v1 w1 hown1 hgrow1 hnil1
        have hb1 : Below wr.heap.size wr w1 := ((Below.refl _ _).alloc (Nat.le_refl _) _).grown hgrow1 (by simp) (fun q hq => by simp [Value.ownBlock] at hq; omega)
        have HG1 : Hid (Grow wr.heap.size w1 v1 []) := grow_app (a := []) (b := []) hown1 (by simp) (fun h => by first | exact hnil1 h | exact absurd (hnil1.1 h).1 (by simp))
        clear hown1 hgrow1 hnil1 HO1
        obtain ⟨g1, c1, rfl⟩ := HG1.out.form
        rw [List.length_nil]
        have HR1 : Hid (IRow w1 g 0 l) := HR.out.on hb1
        have HO2 : Hid ((w1.alloc (.cells #[] 2)).ownsRow w1.heap.size 2 1 (.slice (some ⟨w1.heap.size, 0, none⟩) 0 0) 0 []) := World.ownsRow_made w1 #[] 0 (Nat.le_refl _) (by decide) (by simp)
        go_wp2_with (at_builtin; refine wpList_append_own _ rfl _ _ 32 rfl w1.heap.size 2 i0 (.int .i64 0) 1 8 Try.underlying32 hif hz0 hz1 hz2 rfl (by decide) _ _ _ rfl HO2.out ⟨g, 0, none⟩ l.length _ (nums l) rfl (by simp [nums]) (irow_nums (HR1.out.on ((Below.refl _ _).alloc (Nat.le_refl _) _))) (nums_one _) (by unfold maxLen; omega) (by omega) (by simp) ?_)
        intro v2 w2 hown2 hgrow2 hnil2
        have hb2 : Below w1.heap.size w1 w2 := ((Below.refl _ _).alloc (Nat.le_refl _) _).grown hgrow2 (by simp) (fun q hq => by simp [Value.ownBlock] at hq; omega)
        have HG2 : Hid (Grow w1.heap.size w2 v2 l) := grow_app (a := []) hown2 (by simp) (fun h => by first | exact hnil2 h | exact absurd (hnil2.1 h).1 (by simp))
        clear hown2 hgrow2 hnil2 HO2
        obtain ⟨g2, c2, rfl⟩ := HG2.out.form
        have hz2' : w1.heap.size ≤ w2.heap.size := hb2.size
        go_wp2_with (at_builtin; refine wpList_append_own _ rfl _ _ 32 rfl w1.heap.size 2 i0 (.int .i64 0) 1 8 Try.underlying32 hif hz0 hz1 hz2 rfl (by decide) _ _ _ rfl (HG2.out.1.alloc _) ⟨w2.heap.size, 0, none⟩ 1 1 [.int .i64 n] rfl rfl (cell_one_new _ _ _) (by simp [Value.oneCell']) (by unfold maxLen; omega) (by omega) (by simp; omega) ?_)
        intro v3 w3 hown3 hgrow3 hnil3
        have hb3 : Below w1.heap.size w1 w3 := (hb2.alloc hb2.size _).grown hgrow3 (by simp; omega) (fun q hq => by simp [Value.ownBlock] at hq; subst hq; exact (HG2.out.1.lt g2 rfl).1)
        have HG3 : Hid (Grow w1.heap.size w3 v3 (l ++ [n])) := grow_next hown3 (fun h => by first | exact hnil3 h | exact absurd (hnil3.1 h).1 (by simp))
        clear hown3 hgrow3 hnil3 HG2 hb2
        obtain ⟨g3, c3, rfl⟩ := HG3.out.form
        have HL3 : Hid ((l ++ [n]).length = l.length + 1) := by show _ = _; rw [List.length_append]; rfl
        rw [HL3.out]
        have HX3 : Hid (w3.ownsRow w1.heap.size 2 1 (.slice (some ⟨g3, 0, none⟩) (l.length + 1) c3) (l.length + 1) (nums (l ++ [n]))) := by have h := HG3.out.1; rw [HL3.out] at h; exact h
        have hz3 : w1.heap.size ≤ w3.heap.size := hb3.size
        go_wp2_with (at_builtin; refine wpList_append_own _ rfl _ _ 32 rfl w1.heap.size 2 i0 (.int .i64 0) 1 8 Try.underlying32 hif hz0 hz1 hz2 rfl (by decide) _ _ _ rfl HX3.out ⟨g1, 0, none⟩ 0 c1 [] rfl rfl (by intro j u h; simp at h) (by simp) (by unfold maxLen; omega) (by omega) hz3 ?_)
        intro v4 w4 hown4 hgrow4 hnil4
        have hb4 : Below w1.heap.size w1 w4 := hb3.grown hgrow4 hz3 (fun q hq => by simp [Value.ownBlock] at hq; subst hq; exact (HX3.out.lt g3 rfl).1)
        have HG4 : Hid (Grow w1.heap.size w4 v4 (l ++ [n])) := ⟨by rw [HL3.out]; exact hown4, fun h => by first | exact hnil4 h | exact absurd (hnil4.1 h).1 (by simp)⟩
        have HB4 : Hid (Below wr.heap.size wr w4) := below_over hb1 hb4
        clear hown4 hgrow4 hnil4 hb4 hb3 hb1
        go_wp2
        go_ret
        exact ⟨_, rfl, by rw [HE.out]; exact HG4.out.lst, HB4.out⟩
theorem sels_fold_step (p : Prg) (nm : Int) {l : List Int} {k : Nat} (hk : k < l.length) : (selsL p nm (l.take (k + 1))).foldl putL [] = (if 0 ≤ selF p l[k] nm then putL ((selsL p nm (l.take k)).foldl putL []) (selF p l[k] nm) else (selsL p nm (l.take k)).foldl putL []) := by
  rw [List.take_succ_eq_append_getElem hk, selsL_snoc, List.foldl_append]
  split <;> rfl
set_option maxRecDepth 100000 in
set_option maxHeartbeats 2000000 in
theorem specTargets (B : Nat) (p : Prg) (a : Option Addr) (cap : Nat) (t nm : Int) (hsp : SmallP p) (w : World) (hp : SK front B w (.slice a p.length cap) p) :
    Calls Try.prog 24 #[.agg #[.slice a p.length cap], .int .i64 t, .int .i64 nm] w fun e w' => ∃ v, e = .returned v ∧ Lst w' v (targA p t nm) ∧ Below w.heap.size w w' := by
  have HSP : Hid (SmallP p) := hsp
  have HP : Hid (SK front B w (.slice a p.length cap) p) := hp
  clear hp hsp
  obtain ⟨W, hW⟩ : ∃ W, W = (w.alloc (.cells #[.slice a p.length cap] 26)).alloc (.cells #[] 2) := ⟨_, rfl⟩
  have hwW : Below w.heap.size w W := by rw [hW]; exact ((Below.refl _ _).alloc (Nat.le_refl _) _).alloc (by simp) _
  have P0 : Hid (Cells W w.heap.size [.slice a p.length cap]) := by rw [hW]; exact (Cells.new w _ rfl _ _).alloc _
  have L0 : Hid (Lst W (.slice (some ⟨w.heap.size + 1, 0, none⟩) 0 0) []) := by
    have h := (grow_start (w.alloc (.cells #[.slice a p.length cap] 26))).lst
    simp only [World.size_alloc] at h
    rw [hW]; exact h
  go_enter Try.func24, Try.ntmps24
  go_wp2_with fail
  rw [← hW]
  clear hW
  refine (l4In B p a cap t HSP.out _ (SK.on HP.out (Keep.of hwW))).mono ?_
  rintro e w1 ⟨rfl, hb1⟩
  have hw1 : Below w.heap.size w w1 := below_over hwW hb1
  have L1 : Hid (Lst w1 (.slice (some ⟨w.heap.size + 1, 0, none⟩) 0 0) []) := L0.out.on hb1
  have P1 : Hid (Cells w1 w.heap.size [.slice a p.length cap]) := P0.out.on hb1
  obtain ⟨q0, _⟩ := P1.out.g0
  clear hb1 P0 L0
  cases hok : (okP p && inB p t)
  · have HN : Hid (targA p t nm = []) := by show _ = _; unfold targA; rw [hok]; rfl
    go_wp2
    go_ret
    exact ⟨_, rfl, by rw [HN.out]; exact L1.out, hw1⟩
  · have HN : Hid (targA p t nm = targL p t nm) := by show _ = _; unfold targA; rw [hok]; rfl
    obtain ⟨hk, h0, h1⟩ := okIn hok
    have h6 := (okP_len hk).2
    have HSU : Hid (SupOk p p.length) := okP_sup hk
    clear hk hok
    go_wp2_with fail
    refine (l5Below B p a cap t h6 HSU.out _ (SK.on HP.out (Keep.of hw1))).mono ?_
    rintro e w2 ⟨vb, rfl, hg, hb2⟩
    obtain ⟨gb, cb, rfl, _, _, hib, _⟩ := hg.gint
    have hw2 : Below w.heap.size w w2 := below_over hw1 hb2
    have P2 : Hid (Cells w2 w.heap.size [.slice a p.length cap]) := P1.out.on hb2
    have L2 : Hid (Lst w2 (.slice (some ⟨w.heap.size + 1, 0, none⟩) 0 0) []) := L1.out.on hb2
    have HIB : Hid (IRow w2 gb 0 (downL p t)) := hib
    have hdl := downL_len p t h6
    have HBD : Hid (∀ x ∈ downL p t, 0 ≤ x ∧ x < (p.length : Int)) := fun x hx => by
      have h := (List.mem_filter.1 hx).1
      unfold allC at h
      obtain ⟨k, hk, rfl⟩ := List.mem_map.1 h
      have := List.mem_range.1 hk
      omega
    have HTE : Hid (targL p t nm = (selsL p nm (downL p t)).foldl putL []) := targL_eq p t nm
    generalize downL p t = D at *
    clear hb2 hg hib q0 P1 L1 hw1
    go_wp2
    go_loopw [7, 9] (fun y i wr => ∃ (k : Nat) (v0 : Value), k ≤ D.length ∧ i = .int .i64 (k : Int) ∧ v0 = y ∧ Hid (Lst wr v0 ((selsL p nm (D.take k)).foldl putL [])) ∧ Below w2.heap.size w2 wr) (fun _ i _ => D.length - (intOf i).toNat)
    case atStart => exact ⟨0, _, Nat.zero_le _, rfl, rfl, L2.out, Below.refl _ _⟩
    case round =>
      clear L2
      obtain ⟨k, v0, hk, rfl, rfl, hL, hb⟩ := hrel
      have hwr : Below w.heap.size w wr := below_over hw2 hb
      obtain ⟨g, c, hv, _⟩ := hL.out
      by_cases hlt : k < D.length
      · have hki : (k : Int) < (D.length : Int) := by omega
        have hk0 : (0 : Int) ≤ (k : Int) := by omega
        obtain ⟨p0, _⟩ := (P2.out.on hb).g0
        have c0 := (HIB.out.on hb) k _ (List.getElem?_eq_getElem hlt)
        rw [Nat.zero_add] at c0
        have HST : Hid ((selsL p nm (D.take (k + 1))).foldl putL [] = (if 0 ≤ selF p D[k] nm then putL ((selsL p nm (D.take k)).foldl putL []) (selF p D[k] nm) else (selsL p nm (D.take k)).foldl putL [])) := sels_fold_step p nm hlt
        have hbd := HBD.out D[k] (List.getElem_mem hlt)
        have hll : ((selsL p nm (D.take k)).foldl putL []).length ≤ 12 := by
          have h1 := foldl_put_len (selsL p nm (D.take k)) []
          have h2 := selsL_len p nm (D.take k)
          have h3 : (D.take k).length ≤ k := by rw [List.length_take]; omega
          simp at h1
          omega
        generalize D[k] = x at *
        obtain ⟨hx0, hx1⟩ := hbd
        have e0 := cell_regrown p0
        have e1 := cell_regrown c0
        have cS : ∀ d os, Calls Try.prog 52 #[.agg #[.slice a p.length cap], .int .i64 x, .int .i64 nm] (Sort.grow (redrawn wr d) os) fun e w'' => e = .returned (.int .i64 (selF p x nm)) ∧ ∃ p : Regrown, w'' = Sort.grow (redrawn wr p.d) p.os := by
          intro d os
          exact Calls.regrown_of (l5Selected B p a cap x nm (by omega) hx1 HSP.out h6 HSU.out _ (SK.on HP.out (Keep.of (below_over hwr (below_regrown wr d os)))))
        generalize (selsL p nm (D.take k)).foldl putL [] = L at *
        generalize selF p x nm = sx at *
        subst hv
        go_wp2_with fail
        refine wp_region_quiet_below (by kernel_rfl) (by kernel_rfl) ?_
        repeat (go_big_quiet_step ((go_at_call 52; exact cS _ _)))
        refine wpQuiet_nil ?_
        intro _ hw'
        obtain ⟨⟨dq, osq⟩, hw''⟩ := hw'
        subst hw''
        have hbq := below_regrown wr dq osq
        have hb3 : Below w2.heap.size w2 (Sort.grow (redrawn wr dq) osq) := below_over hb hbq
        have HL3 : Hid (Lst (Sort.grow (redrawn wr dq) osq) (.slice (some ⟨g, 0, none⟩) L.length c) L) := hL.out.on hbq
        clear hb hL hbq p0 c0 e0 e1 cS hwr
        generalize Sort.grow (redrawn wr dq) osq = w3 at *
        by_cases hs : 0 ≤ sx
        · rw [if_pos hs] at HST
          go_wp2_with fail
          refine (l1Put L _ sx hll _ HL3.out).mono ?_
          rintro e w4 ⟨v4, rfl, hl4, hb4⟩
          have hb5 : Below w2.heap.size w2 w4 := below_over hb3 hb4
          have HL4 : Hid (Lst w4 v4 ((selsL p nm (D.take (k + 1))).foldl putL [])) := by rw [HST.out]; exact hl4
          clear hl4 hb4 HL3 hb3
          go_wp2
          go_roundw
          case rel => exact ⟨k + 1, v4, by omega, by go_num, rfl, HL4.out, hb5⟩
          case measure => simp [intOf]; omega
        · rw [if_neg hs] at HST
          have HL4 : Hid (Lst w3 (.slice (some ⟨g, 0, none⟩) L.length c) ((selsL p nm (D.take (k + 1))).foldl putL [])) := by rw [HST.out]; exact HL3.out
          clear HL3
          go_wp2
          go_roundw
          case rel => exact ⟨k + 1, _, by omega, by go_num, rfl, HL4.out, hb3⟩
          case measure => simp [intOf]; omega
      · have hkk : D.take k = D := List.take_of_length_le (by omega)
        have HL4 : Hid (Lst wr v0 (targA p t nm)) := by
          rw [HN.out, HTE.out, ← hkk]; exact hL.out
        have hki : ¬ (k : Int) < (D.length : Int) := by omega
        clear hL hkk
        subst hv
        go_wp2
        go_ret
        exact ⟨_, rfl, HL4.out, hwr⟩
end Pg
end Go.Proofs.Ytmbbombjlijknaa

/- Contracts of both sides' Under, Lowest and Selected. -/
namespace Go.Proofs.Ytmbbombjlijknaa
namespace Pg
open Go.ChangeShapes Go.WideShapes Go.ChangeAt Go.RowKit St

def undA (p : Prg) (a b : Int) : Bool := okP p && inB p a && undB p a b
def lowA (p : Prg) (a b : Int) : Int := if okP p && inB p a && inB p b then lowF p a b else -1
def selA (p : Prg) (c n : Int) : Int := if okP p && inB p c then selF p c n else -1

set_option maxHeartbeats 1000000 in
theorem implUnder (B : Nat) (p : Prg) (a : Option Addr) (cap : Nat) (t s : Int) (hsp : SmallP p) (w : World) (hp : SK front B w (.slice a p.length cap) p) :
    Calls Try.prog 13 #[.agg #[.slice a p.length cap], .int .i64 t, .int .i64 s] w fun e w' => e = .returned (.bool (undA p t s)) ∧ Below w.heap.size w w' := by
  have HSP : Hid (SmallP p) := hsp
  have HP : Hid (SK front B w (.slice a p.length cap) p) := hp
  clear hp hsp
  obtain ⟨W, hW⟩ : ∃ W, W = w.alloc (.cells #[.slice a p.length cap] 26) := ⟨_, rfl⟩
  have hwW : Below w.heap.size w W := by rw [hW]; exact (Below.refl _ _).alloc (Nat.le_refl _) _
  have P0 : Hid (Cells W w.heap.size [.slice a p.length cap]) := by rw [hW]; exact Cells.new w _ rfl _ _
  go_enter Try.func13, Try.ntmps13
  go_wp2_with fail
  rw [← hW]
  clear hW
  refine (isRightClass B p a cap t HSP.out _ (SK.on HP.out (Keep.of hwW))).mono ?_
  rintro e w1 ⟨rfl, hb1⟩
  have hw1 : Below w.heap.size w w1 := below_over hwW hb1
  have P1 : Hid (Cells w1 w.heap.size [.slice a p.length cap]) := P0.out.on hb1
  obtain ⟨q0, _⟩ := P1.out.g0
  clear hb1 P0
  cases hok : (okP p && inB p t)
  · have HN : Hid (undA p t s = false) := by show _ = _; unfold undA; rw [hok]; rfl
    go_wp2
    go_ret
    exact ⟨retB HN.out.symm, hw1⟩
  · have HN : Hid (undA p t s = undB p t s) := by show _ = _; unfold undA; rw [hok]; rfl
    obtain ⟨hk, h0, h1⟩ := okIn hok
    have h6 := (okP_len hk).2
    have HSU : Hid (SupOk p p.length) := okP_sup hk
    clear hk hok
    go_wp2_with fail
    refine (isUnder B p a cap t s (by omega) h1 h6 HSU.out _ (SK.on HP.out (Keep.of hw1))).mono ?_
    rintro e w2 ⟨rfl, hb2⟩
    have hw2 : Below w.heap.size w w2 := below_over hw1 hb2
    clear hb2 q0
    generalize undB p t s = q at *
    go_wp2
    go_ret
    exact ⟨retB HN.out.symm, hw2⟩
set_option maxHeartbeats 1000000 in
theorem specUnder (B : Nat) (p : Prg) (a : Option Addr) (cap : Nat) (t s : Int) (hsp : SmallP p) (w : World) (hp : SK front B w (.slice a p.length cap) p) :
    Calls Try.prog 14 #[.agg #[.slice a p.length cap], .int .i64 t, .int .i64 s] w fun e w' => e = .returned (.bool (undA p t s)) ∧ Below w.heap.size w w' := by
  have HSP : Hid (SmallP p) := hsp
  have HP : Hid (SK front B w (.slice a p.length cap) p) := hp
  clear hp hsp
  obtain ⟨W, hW⟩ : ∃ W, W = w.alloc (.cells #[.slice a p.length cap] 26) := ⟨_, rfl⟩
  have hwW : Below w.heap.size w W := by rw [hW]; exact (Below.refl _ _).alloc (Nat.le_refl _) _
  have P0 : Hid (Cells W w.heap.size [.slice a p.length cap]) := by rw [hW]; exact Cells.new w _ rfl _ _
  go_enter Try.func14, Try.ntmps14
  go_wp2_with fail
  rw [← hW]
  clear hW
  refine (l4In B p a cap t HSP.out _ (SK.on HP.out (Keep.of hwW))).mono ?_
  rintro e w1 ⟨rfl, hb1⟩
  have hw1 : Below w.heap.size w w1 := below_over hwW hb1
  have P1 : Hid (Cells w1 w.heap.size [.slice a p.length cap]) := P0.out.on hb1
  obtain ⟨q0, _⟩ := P1.out.g0
  clear hb1 P0
  cases hok : (okP p && inB p t)
  · have HN : Hid (undA p t s = false) := by show _ = _; unfold undA; rw [hok]; rfl
    go_wp2
    go_ret
    exact ⟨retB HN.out.symm, hw1⟩
  · have HN : Hid (undA p t s = undB p t s) := by show _ = _; unfold undA; rw [hok]; rfl
    obtain ⟨hk, h0, h1⟩ := okIn hok
    have h6 := (okP_len hk).2
    have HSU : Hid (SupOk p p.length) := okP_sup hk
    clear hk hok
    go_wp2_with fail
    refine (l5Under B p a cap t s (by omega) h1 h6 HSU.out _ (SK.on HP.out (Keep.of hw1))).mono ?_
    rintro e w2 ⟨rfl, hb2⟩
    have hw2 : Below w.heap.size w w2 := below_over hw1 hb2
    clear hb2 q0
    generalize undB p t s = q at *
    go_wp2
    go_ret
    exact ⟨retB HN.out.symm, hw2⟩
set_option maxHeartbeats 1000000 in
theorem implSelected (B : Nat) (p : Prg) (a : Option Addr) (cap : Nat) (t s : Int) (hsp : SmallP p) (w : World) (hp : SK front B w (.slice a p.length cap) p) :
    Calls Try.prog 21 #[.agg #[.slice a p.length cap], .int .i64 t, .int .i64 s] w fun e w' => e = .returned (.int .i64 (selA p t s)) ∧ Below w.heap.size w w' := by
  have HSP : Hid (SmallP p) := hsp
  have HP : Hid (SK front B w (.slice a p.length cap) p) := hp
  clear hp hsp
  obtain ⟨W, hW⟩ : ∃ W, W = w.alloc (.cells #[.slice a p.length cap] 26) := ⟨_, rfl⟩
  have hwW : Below w.heap.size w W := by rw [hW]; exact (Below.refl _ _).alloc (Nat.le_refl _) _
  have P0 : Hid (Cells W w.heap.size [.slice a p.length cap]) := by rw [hW]; exact Cells.new w _ rfl _ _
  go_enter Try.func21, Try.ntmps21
  go_wp2_with fail
  rw [← hW]
  clear hW
  refine (isRightClass B p a cap t HSP.out _ (SK.on HP.out (Keep.of hwW))).mono ?_
  rintro e w1 ⟨rfl, hb1⟩
  have hw1 : Below w.heap.size w w1 := below_over hwW hb1
  have P1 : Hid (Cells w1 w.heap.size [.slice a p.length cap]) := P0.out.on hb1
  obtain ⟨q0, _⟩ := P1.out.g0
  clear hb1 P0
  cases hok : (okP p && inB p t)
  · have HN : Hid (selA p t s = -1) := by show _ = _; unfold selA; rw [hok]; rfl
    go_wp2
    go_ret
    exact ⟨retI HN.out.symm, hw1⟩
  · have HN : Hid (selA p t s = selF p t s) := by show _ = _; unfold selA; rw [hok]; rfl
    obtain ⟨hk, h0, h1⟩ := okIn hok
    have h6 := (okP_len hk).2
    have HSU : Hid (SupOk p p.length) := okP_sup hk
    clear hk hok
    go_wp2_with fail
    refine (selectedFrom B p a cap t s (by omega) h1 HSP.out h6 HSU.out _ (SK.on HP.out (Keep.of hw1))).mono ?_
    rintro e w2 ⟨rfl, hb2⟩
    have hw2 : Below w.heap.size w w2 := below_over hw1 hb2
    clear hb2 q0
    generalize selF p t s = q at *
    go_wp2
    go_ret
    exact ⟨retI HN.out.symm, hw2⟩
set_option maxHeartbeats 1000000 in
theorem specSelected (B : Nat) (p : Prg) (a : Option Addr) (cap : Nat) (t s : Int) (hsp : SmallP p) (w : World) (hp : SK front B w (.slice a p.length cap) p) :
    Calls Try.prog 23 #[.agg #[.slice a p.length cap], .int .i64 t, .int .i64 s] w fun e w' => e = .returned (.int .i64 (selA p t s)) ∧ Below w.heap.size w w' := by
  have HSP : Hid (SmallP p) := hsp
  have HP : Hid (SK front B w (.slice a p.length cap) p) := hp
  clear hp hsp
  obtain ⟨W, hW⟩ : ∃ W, W = w.alloc (.cells #[.slice a p.length cap] 26) := ⟨_, rfl⟩
  have hwW : Below w.heap.size w W := by rw [hW]; exact (Below.refl _ _).alloc (Nat.le_refl _) _
  have P0 : Hid (Cells W w.heap.size [.slice a p.length cap]) := by rw [hW]; exact Cells.new w _ rfl _ _
  go_enter Try.func23, Try.ntmps23
  go_wp2_with fail
  rw [← hW]
  clear hW
  refine (l4In B p a cap t HSP.out _ (SK.on HP.out (Keep.of hwW))).mono ?_
  rintro e w1 ⟨rfl, hb1⟩
  have hw1 : Below w.heap.size w w1 := below_over hwW hb1
  have P1 : Hid (Cells w1 w.heap.size [.slice a p.length cap]) := P0.out.on hb1
  obtain ⟨q0, _⟩ := P1.out.g0
  clear hb1 P0
  cases hok : (okP p && inB p t)
  · have HN : Hid (selA p t s = -1) := by show _ = _; unfold selA; rw [hok]; rfl
    go_wp2
    go_ret
    exact ⟨retI HN.out.symm, hw1⟩
  · have HN : Hid (selA p t s = selF p t s) := by show _ = _; unfold selA; rw [hok]; rfl
    obtain ⟨hk, h0, h1⟩ := okIn hok
    have h6 := (okP_len hk).2
    have HSU : Hid (SupOk p p.length) := okP_sup hk
    clear hk hok
    go_wp2_with fail
    refine (l5Selected B p a cap t s (by omega) h1 HSP.out h6 HSU.out _ (SK.on HP.out (Keep.of hw1))).mono ?_
    rintro e w2 ⟨rfl, hb2⟩
    have hw2 : Below w.heap.size w w2 := below_over hw1 hb2
    clear hb2 q0
    generalize selF p t s = q at *
    go_wp2
    go_ret
    exact ⟨retI HN.out.symm, hw2⟩
set_option maxHeartbeats 1000000 in
theorem implLowest (B : Nat) (p : Prg) (a : Option Addr) (cap : Nat) (t s : Int) (hsp : SmallP p) (w : World) (hp : SK front B w (.slice a p.length cap) p) :
    Calls Try.prog 8 #[.agg #[.slice a p.length cap], .int .i64 t, .int .i64 s] w fun e w' => e = .returned (.int .i64 (lowA p t s)) ∧ Below w.heap.size w w' := by
  have HSP : Hid (SmallP p) := hsp
  have HP : Hid (SK front B w (.slice a p.length cap) p) := hp
  clear hp hsp
  obtain ⟨W, hW⟩ : ∃ W, W = w.alloc (.cells #[.slice a p.length cap] 26) := ⟨_, rfl⟩
  have hwW : Below w.heap.size w W := by rw [hW]; exact (Below.refl _ _).alloc (Nat.le_refl _) _
  have P0 : Hid (Cells W w.heap.size [.slice a p.length cap]) := by rw [hW]; exact Cells.new w _ rfl _ _
  go_enter Try.func8, Try.ntmps8
  go_wp2_with fail
  rw [← hW]
  clear hW
  refine (isRightClass B p a cap t HSP.out _ (SK.on HP.out (Keep.of hwW))).mono ?_
  rintro e w1 ⟨rfl, hb1⟩
  have hw1 : Below w.heap.size w w1 := below_over hwW hb1
  have P1 : Hid (Cells w1 w.heap.size [.slice a p.length cap]) := P0.out.on hb1
  obtain ⟨q0, _⟩ := P1.out.g0
  clear hb1 P0
  cases hok : (okP p && inB p t)
  · have HN : Hid (lowA p t s = -1) := by show _ = _; unfold lowA; rw [hok]; rfl
    go_wp2
    go_ret
    exact ⟨retI HN.out.symm, hw1⟩
  · have HN : Hid (lowA p t s = if (decide (0 ≤ s) && decide (s < (p.length : Int))) then lowF p t s else -1) := by show _ = _; unfold lowA; rw [hok]; rfl
    obtain ⟨hk, h0, h1⟩ := okIn hok
    have h6 := (okP_len hk).2
    have HSU : Hid (SupOk p p.length) := okP_sup hk
    clear hk hok
    go_wp2_with fail
    refine (hasClass a p.length cap s _).mono ?_
    rintro e w2 ⟨rfl, hb2⟩
    have hw2 : Below w.heap.size w w2 := below_over hw1 hb2
    clear q0
    obtain ⟨q0, _⟩ := (P1.out.on hb2).g0
    clear hb2
    cases hin : (decide (0 ≤ s) && decide (s < (p.length : Int)))
    · have HM : Hid (lowA p t s = -1) := by show _ = _; rw [HN.out, hin]; rfl
      go_wp2
      go_ret
      exact ⟨retI HM.out.symm, hw2⟩
    · have HM : Hid (lowA p t s = lowF p t s) := by show _ = _; rw [HN.out, hin]; rfl
      simp only [Bool.and_eq_true, decide_eq_true_eq] at hin
      obtain ⟨h2, h3⟩ := hin
      clear HN
      go_wp2_with fail
      refine (lowestOf B p a cap t s (by omega) h1 (by omega) h3 h6 HSU.out _ (SK.on HP.out (Keep.of hw2))).mono ?_
      rintro e w3 ⟨rfl, hb3⟩
      have hw3 : Below w.heap.size w w3 := below_over hw2 hb3
      clear hb3 q0
      generalize lowF p t s = q at *
      go_wp2
      go_ret
      exact ⟨retI HM.out.symm, hw3⟩
set_option maxHeartbeats 1000000 in
theorem specLowest (B : Nat) (p : Prg) (a : Option Addr) (cap : Nat) (t s : Int) (hsp : SmallP p) (w : World) (hp : SK front B w (.slice a p.length cap) p) :
    Calls Try.prog 12 #[.agg #[.slice a p.length cap], .int .i64 t, .int .i64 s] w fun e w' => e = .returned (.int .i64 (lowA p t s)) ∧ Below w.heap.size w w' := by
  have HSP : Hid (SmallP p) := hsp
  have HP : Hid (SK front B w (.slice a p.length cap) p) := hp
  clear hp hsp
  obtain ⟨W, hW⟩ : ∃ W, W = w.alloc (.cells #[.slice a p.length cap] 26) := ⟨_, rfl⟩
  have hwW : Below w.heap.size w W := by rw [hW]; exact (Below.refl _ _).alloc (Nat.le_refl _) _
  have P0 : Hid (Cells W w.heap.size [.slice a p.length cap]) := by rw [hW]; exact Cells.new w _ rfl _ _
  go_enter Try.func12, Try.ntmps12
  go_wp2_with fail
  rw [← hW]
  clear hW
  refine (l4In B p a cap t HSP.out _ (SK.on HP.out (Keep.of hwW))).mono ?_
  rintro e w1 ⟨rfl, hb1⟩
  have hw1 : Below w.heap.size w w1 := below_over hwW hb1
  have P1 : Hid (Cells w1 w.heap.size [.slice a p.length cap]) := P0.out.on hb1
  obtain ⟨q0, _⟩ := P1.out.g0
  clear hb1 P0
  cases hok : (okP p && inB p t)
  · have HN : Hid (lowA p t s = -1) := by show _ = _; unfold lowA; rw [hok]; rfl
    go_wp2
    go_ret
    exact ⟨retI HN.out.symm, hw1⟩
  · have HN : Hid (lowA p t s = if (decide (0 ≤ s) && decide (s < (p.length : Int))) then lowF p t s else -1) := by show _ = _; unfold lowA; rw [hok]; rfl
    obtain ⟨hk, h0, h1⟩ := okIn hok
    have h6 := (okP_len hk).2
    have HSU : Hid (SupOk p p.length) := okP_sup hk
    clear hk hok
    by_cases h2 : 0 ≤ s
    · by_cases h3 : s < (p.length : Int)
      · have HM : Hid (lowA p t s = lowF p t s) := by show _ = _; rw [HN.out]; simp [h2, h3]
        clear HN
        go_wp2_with fail
        refine (l5Lowest B p a cap t s (by omega) h1 (by omega) h3 h6 HSU.out _ (SK.on HP.out (Keep.of hw1))).mono ?_
        rintro e w3 ⟨rfl, hb3⟩
        have hw3 : Below w.heap.size w w3 := below_over hw1 hb3
        clear hb3 q0
        generalize lowF p t s = q at *
        go_wp2
        go_ret
        exact ⟨retI HM.out.symm, hw3⟩
      · have HM : Hid (lowA p t s = -1) := by show _ = _; rw [HN.out]; simp [h3]
        clear HN
        go_wp2
        go_ret
        exact ⟨retI HM.out.symm, hw1⟩
    · have HM : Hid (lowA p t s = -1) := by show _ = _; rw [HN.out]; simp [h2]
      clear HN
      go_wp2
      go_ret
      exact ⟨retI HM.out.symm, hw1⟩
end Pg
end Go.Proofs.Ytmbbombjlijknaa

/- Facts on who is above whom: the lowest of two, those below. -/
namespace Go.Proofs.Ytmbbombjlijknaa
namespace Pg
open Go.ChangeShapes Go.WideShapes Go.ChangeAt Go.RowKit St

theorem upF_falls {p : Prg} (hs : SupOk p p.length) : ∀ (f : Nat) (c : Int), (upF p f c).Pairwise (· > ·) := by
  intro f
  induction f with
  | zero => intro c; simp [upF]
  | succ f ih =>
    intro c
    simp only [upF]
    split
    · simp
    · split
      · simp
      · rename_i hc k hk
        have h1 := (List.getElem?_eq_some_iff.1 hk).1
        have h2 := hs _ k h1 hk
        refine List.pairwise_cons.2 ⟨fun y hy => ?_, ih _⟩
        have := upF_le hs f _ y hy
        omega
theorem upL_falls {p : Prg} (hs : SupOk p p.length) (c : Int) : (upL p c).Pairwise (· > ·) := upF_falls hs 6 c
theorem upL_past {p : Prg} {c : Int} (h : (p.length : Int) ≤ c) : upL p c = [] := by
  show upF p 6 c = []
  simp only [upF]
  split
  · rfl
  · have : p[c.toNat]? = none := List.getElem?_eq_none (by omega)
    rw [this]
theorem upL_tail {p : Prg} (hs : SupOk p p.length) (h6 : p.length ≤ 6) : ∀ (n : Nat) (a : Nat), a < n → a < p.length → ∀ x, x ∈ upL p (a : Int) → ∃ pre, upL p (a : Int) = pre ++ upL p x := by
  intro n
  induction n with
  | zero => intro a h; omega
  | succ n ih =>
    intro a ha hal x hx
    have e := upL_step hs hal (by omega) (List.getElem?_eq_getElem hal)
    rw [e] at hx
    rcases List.mem_cons.1 hx with rfl | hx
    · exact ⟨[], rfl⟩
    · have h2 := hs a p[a] hal (List.getElem?_eq_getElem hal)
      by_cases h0 : p[a].super < 0
      · rw [upL_neg p h0] at hx; simp at hx
      · obtain ⟨s, hse⟩ := Int.eq_ofNat_of_zero_le (show 0 ≤ p[a].super by omega)
        rw [hse] at hx h2
        obtain ⟨pre, hp⟩ := ih s (by omega) (by omega) x hx
        exact ⟨(a : Int) :: pre, by rw [e, hse, hp]; rfl⟩
theorem upL_chain {p : Prg} (hs : SupOk p p.length) (h6 : p.length ≤ 6) {a x y : Int} (hx : x ∈ upL p a) (hy : y ∈ upL p a) (hle : y ≤ x) : y ∈ upL p x := by
  by_cases h0 : a < 0
  · rw [upL_neg p h0] at hx; simp at hx
  by_cases h1 : (p.length : Int) ≤ a
  · rw [upL_past h1] at hx; simp at hx
  obtain ⟨n, rfl⟩ := Int.eq_ofNat_of_zero_le (show 0 ≤ a by omega)
  obtain ⟨pre, hp⟩ := upL_tail hs h6 (n + 1) n (by omega) (by omega) x hx
  have hf := upL_falls hs (n : Int)
  rw [hp] at hy hf
  rcases List.mem_append.1 hy with hy | hy
  · have := (List.pairwise_append.1 hf).2.2 y hy x ?_
    · omega
    · have hm := upL_mem hx
      obtain ⟨m, rfl⟩ := Int.eq_ofNat_of_zero_le hm.1
      exact upL_self hs h6 (by omega)
  · exact hy
/-- The first of a falling list that is in another is the greatest that both have. -/
theorem find_top {l l' : List Int} (hl : l.Pairwise (· > ·)) {x : Int} (h : l.find? (fun x => decide (x ∈ l')) = some x) : x ∈ l ∧ x ∈ l' ∧ ∀ y ∈ l, y ∈ l' → y ≤ x := by
  induction l with
  | nil => simp at h
  | cons z l ih =>
    obtain ⟨h1, h2⟩ := List.pairwise_cons.1 hl
    rw [List.find?_cons] at h
    by_cases hz : z ∈ l'
    · simp [hz] at h
      subst h
      refine ⟨by simp, hz, fun y hy _ => ?_⟩
      rcases List.mem_cons.1 hy with rfl | hy
      · exact Int.le_refl _
      · have := h1 y hy; omega
    · simp [hz] at h
      obtain ⟨k1, k2, k3⟩ := ih h2 (by simpa using h)
      refine ⟨List.mem_cons_of_mem _ k1, k2, fun y hy hy' => ?_⟩
      rcases List.mem_cons.1 hy with rfl | hy
      · exact absurd hy' hz
      · exact k3 y hy hy'
theorem lowF_some {p : Prg} (hs : SupOk p p.length) {a b y : Int} (h1 : y ∈ upL p a) (h2 : y ∈ upL p b) : lowF p a b ∈ upL p a ∧ lowF p a b ∈ upL p b ∧ ∀ z ∈ upL p a, z ∈ upL p b → z ≤ lowF p a b := by
  cases hf : (upL p a).find? fun x => undB p b x with
  | none =>
    have := List.find?_eq_none.1 hf y h1
    simp [undB, h2] at this
  | some x =>
    have e : lowF p a b = x := by unfold lowF; rw [hf]; rfl
    rw [e]
    exact find_top (upL_falls hs a) hf
theorem lowF_none {p : Prg} {a b : Int} (h : ∀ y ∈ upL p a, ¬ y ∈ upL p b) : lowF p a b = -1 := by
  unfold lowF
  rw [List.find?_eq_none.2 (fun x hx => by simpa [undB] using h x hx)]; rfl
theorem lowF_flip {p : Prg} (hs : SupOk p p.length) (a b : Int) : lowF p a b = lowF p b a := by
  by_cases h : ∃ y, y ∈ upL p a ∧ y ∈ upL p b
  · obtain ⟨y, h1, h2⟩ := h
    obtain ⟨k1, k2, k3⟩ := lowF_some hs h1 h2
    obtain ⟨m1, m2, m3⟩ := lowF_some hs h2 h1
    have := k3 _ m2 m1
    have := m3 _ k2 k1
    omega
  · rw [lowF_none (fun y h1 h2 => h ⟨y, h1, h2⟩), lowF_none (fun y h1 h2 => h ⟨y, h2, h1⟩)]
theorem lowA_flip (p : Prg) (a b : Int) : lowA p a b = lowA p b a := by
  unfold lowA
  by_cases hok : okP p = true
  · rw [hok, lowF_flip (okP_sup hok) a b, Bool.and_assoc, Bool.and_assoc, Bool.and_comm (inB p a)]
  · simp [hok]
theorem lowA_up {p : Prg} {a b i : Int} (h1 : undA p a i = true) (h2 : undA p b i = true) : undA p (lowA p a b) i = true := by
  simp only [undA, Bool.and_eq_true] at h1 h2
  obtain ⟨⟨hok, ha⟩, hu⟩ := h1
  obtain ⟨⟨_, hb⟩, hv⟩ := h2
  have e : lowA p a b = lowF p a b := by simp [lowA, hok, ha, hb]
  have hu' : i ∈ upL p a := by simpa [undB] using hu
  have hv' : i ∈ upL p b := by simpa [undB] using hv
  obtain ⟨k1, k2, k3⟩ := lowF_some (okP_sup hok) hu' hv'
  have hm := upL_mem k1
  have hc := upL_chain (okP_sup hok) (okP_len hok).2 k1 hu' (k3 i hu' hv')
  simp only [undA, e, Bool.and_eq_true]
  exact ⟨⟨hok, by simp [inB]; exact hm⟩, by simpa [undB] using hc⟩
theorem lowA_in {p : Prg} {a b : Int} (h : ¬ lowA p a b < 0) : undA p a (lowA p a b) = true ∧ undA p b (lowA p a b) = true := by
  unfold lowA at h ⊢
  by_cases hok : (okP p && inB p a && inB p b) = true
  · rw [if_pos hok] at h ⊢
    simp only [Bool.and_eq_true] at hok
    by_cases hy : ∃ y, y ∈ upL p a ∧ y ∈ upL p b
    · obtain ⟨y, h1, h2⟩ := hy
      obtain ⟨k1, k2, _⟩ := lowF_some (okP_sup hok.1.1) h1 h2
      exact ⟨by simp only [undA, hok.1.1, hok.1.2, Bool.and_self, Bool.true_and]; simpa [undB] using k1, by simp only [undA, hok.1.1, hok.2, Bool.and_self, Bool.true_and]; simpa [undB] using k2⟩
    · rw [lowF_none (fun y h1 h2 => hy ⟨y, h1, h2⟩)] at h
      omega
  · rw [if_neg hok] at h
    omega
theorem up_has (p : Prg) (c i : Int) : decide (i ∈ upA p c) = undA p c i := by
  unfold upA undA
  cases h : okP p && inB p c <;> simp [undB]
theorem down_has (p : Prg) (c : Int) {i : Nat} (hi : i < p.length) : decide ((i : Int) ∈ downA p c) = (undA p i c && decide (0 < ((upA p c).length : Int))) := by
  unfold downA upA undA
  cases h : okP p && inB p c with
  | false => simp
  | true =>
    obtain ⟨hok, h0, h1⟩ := okIn h
    obtain ⟨n, rfl⟩ := Int.eq_ofNat_of_zero_le h0
    have hl : 0 < (upL p (n : Int)).length := List.length_pos_of_mem (upL_self (okP_sup hok) (okP_len hok).2 (by omega))
    have hin : inB p (i : Int) = true := by simp [inB]; omega
    have hmem : (i : Int) ∈ allC p := List.mem_map.2 ⟨i, List.mem_range.2 hi, rfl⟩
    simp [hok, hin, downL, hmem, hl]
theorem down_rises (p : Prg) (c : Int) : ∀ k x y, (downA p c)[k]? = some x → (downA p c)[k + 1]? = some y → x < y := by
  have hr : (allC p).Pairwise (· < ·) := by
    unfold allC
    exact List.pairwise_map.2 (List.pairwise_lt_range.imp (fun h => by omega))
  have hd : (downA p c).Pairwise (· < ·) := by
    unfold downA
    split
    · exact hr.filter _
    · simp
  intro k x y hx hy
  obtain ⟨h1, rfl⟩ := List.getElem?_eq_some_iff.1 hx
  obtain ⟨h2, rfl⟩ := List.getElem?_eq_some_iff.1 hy
  exact (List.pairwise_iff_getElem.1 hd) k (k + 1) h1 h2 (by omega)
end Pg
end Go.Proofs.Ytmbbombjlijknaa

/- What MethodOf answers. -/
namespace Go.Proofs.Ytmbbombjlijknaa
namespace Pg
open Go.ChangeShapes Go.WideShapes Go.ChangeAt Go.RowKit St

def methF (p : Prg) (t name : Int) : Option Meth := if okP p && inB p t then (match p[t.toNat]? with | none => none | some c => ownF c name) else none
theorem methF_no {p : Prg} {t name : Int} (h : (okP p && inB p t) = false) : methF p t name = none := by unfold methF; rw [h]; rfl
theorem methF_at {p : Prg} {u : Nat} {name : Int} {c : Cls} (h : okP p = true) (hu : u < p.length) (hc : p[u]? = some c) : methF p (u : Int) name = ownF c name := by
  unfold methF
  have : inB p (u : Int) = true := by simp [inB]; omega
  rw [h, this]
  simp [hc]
/-- What MethodOf answers. -/
def MPost (p : Prg) (t name : Int) (w : World) (e : Ending) (w' : World) : Prop :=
  ((∃ m x1 y1 x2 y2, methF p t name = some m ∧ e = .returned (.tuple #[.agg #[.int .i64 m.name, .slice x1 m.args.length y1, .int .i64 m.gives, .slice x2 m.code.length y2], .bool true]) ∧ AnsM w.heap.size w' (.slice x1 m.args.length y1) (.slice x2 m.code.length y2) m) ∨
   (methF p t name = none ∧ e = .returned (.tuple #[.agg #[.int .i64 0, .slice none 0 0, .int .i64 0, .slice none 0 0], .bool false]))) ∧ Below w.heap.size w w'

end Pg
end Go.Proofs.Ytmbbombjlijknaa

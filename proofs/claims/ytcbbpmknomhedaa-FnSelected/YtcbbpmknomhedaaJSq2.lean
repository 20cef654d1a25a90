/- Lists that rise, plainly: what is put in once, what sorting and leaving out doubles comes to. -/
import Derived.Test.YtcbbpmknomhedaaJHi0
import Derived.Test.YtcbbpmknomhedaaJLay
import Derived.Test.YtcbbpmknomhedaaJLo1
import Derived.Lib.SliceRun
import Derived.BigQuiet
import Derived.RegionTactic
namespace Go.Proofs.Ytcbbpmknomhedaa
namespace Pg
open Go.ChangeShapes Go.WideShapes Go.ChangeAt Go.RowKit St

/-- What is selected of each of these, without those that have none. -/
def selsL (p : Prg) (name : Int) (l : List Int) : List Int := (l.map fun i => selF p i name).filter fun s => decide (0 ≤ s)
theorem selsL_snoc (p : Prg) (name : Int) (l : List Int) (x : Int) : selsL p name (l ++ [x]) = selsL p name l ++ (if 0 ≤ selF p x name then [selF p x name] else []) := by
  unfold selsL
  rw [List.map_append, List.filter_append]
  by_cases h : 0 ≤ selF p x name <;> simp [h]
theorem selsL_len (p : Prg) (name : Int) (l : List Int) : (selsL p name l).length ≤ l.length := by
  unfold selsL
  have := List.length_filter_le (fun s : Int => decide (0 ≤ s)) (l.map fun i => selF p i name)
  simpa using this
theorem targL_eq (p : Prg) (c name : Int) : targL p c name = (selsL p name (downL p c)).foldl putL [] := rfl
theorem targL_rise (p : Prg) (c name : Int) : Rise (targL p c name) := (foldl_put _ [] (by simp)).1
theorem targL_mem (p : Prg) (c name x : Int) : x ∈ targL p c name ↔ x ∈ selsL p name (downL p c) := by
  rw [targL_eq, (foldl_put _ [] (by simp)).2]; simp
theorem targL_of {p : Prg} {c name : Int} {r : List Int} (h1 : Rise r) (h2 : ∀ x, x ∈ r ↔ x ∈ selsL p name (downL p c)) : r = targL p c name :=
  rise_ext h1 (targL_rise p c name) (fun x => by rw [h2, targL_mem])

/-- All but what is at j lie in order up to i. -/
def Hole (l : List Int) (i j : Nat) : Prop := ∀ a b x y, a < b → b ≤ i → b ≠ j → l[a]? = some x → l[b]? = some y → x ≤ y
def Srt (l : List Int) (i : Nat) : Prop := ∀ a b x y, a < b → b < i → l[a]? = some x → l[b]? = some y → x ≤ y
theorem Srt.hole {l : List Int} {i : Nat} (h : Srt l i) : Hole l i i := fun a b x y h1 h2 h3 hx hy => h a b x y h1 (by omega) hx hy
theorem Hole.zero {l : List Int} {i : Nat} (h : Hole l i 0) : Srt l (i + 1) := fun a b x y h1 h2 hx hy => h a b x y h1 (by omega) (by omega) hx hy
theorem Hole.done {l : List Int} {i j : Nat} {x y : Int} (h : Hole l i (j + 1)) (hx : l[j]? = some x) (hy : l[j + 1]? = some y) (hxy : x ≤ y) : Srt l (i + 1) := fun a b u v h1 h2 hu hv => by
  by_cases e : b = j + 1
  · subst e
    rw [hy] at hv
    injection hv with hv
    subst hv
    by_cases e' : a = j
    · subst e'; rw [hx] at hu; injection hu with hu; subst hu; exact hxy
    · have := h a j u x (by omega) (by omega) (by omega) hu hx; omega
  · exact h a b u v h1 (by omega) e hu hv
def swapL (l : List Int) (j : Nat) (x y : Int) : List Int := (l.set (j + 1) x).set j y
theorem swapL_len (l : List Int) (j : Nat) (x y : Int) : (swapL l j x y).length = l.length := by simp [swapL]
theorem swapL_at {l : List Int} {j : Nat} {x y : Int} (h : j + 1 < l.length) (k : Nat) : (swapL l j x y)[k]? = if k = j then some y else if k = j + 1 then some x else l[k]? := by
  unfold swapL
  rw [List.getElem?_set]
  by_cases h1 : j = k
  · subst h1; simp; omega
  · rw [if_neg h1, if_neg (fun e => h1 e.symm), List.getElem?_set]
    by_cases h2 : j + 1 = k
    · subst h2; simp; omega
    · rw [if_neg h2, if_neg (fun e => h2 e.symm)]
theorem Hole.swap {l : List Int} {i j : Nat} {x y : Int} (h : Hole l i (j + 1)) (hi : i < l.length) (hj : j + 1 ≤ i) (hx : l[j]? = some x) (hy : l[j + 1]? = some y) (hxy : y < x) : Hole (swapL l j x y) i j := fun a b u v h1 h2 h3 hu hv => by
  rw [swapL_at (by omega)] at hu hv
  rw [if_neg h3] at hv
  by_cases e : b = j + 1
  · subst e
    rw [if_pos rfl] at hv
    injection hv with hv
    subst hv
    by_cases e' : a = j
    · subst e'; rw [if_pos rfl] at hu; injection hu with hu; omega
    · rw [if_neg e', if_neg (by omega)] at hu
      exact h a j u x (by omega) (by omega) (by omega) hu hx
  · rw [if_neg e] at hv
    by_cases e1 : a = j
    · subst e1
      rw [if_pos rfl] at hu
      injection hu with hu
      subst hu
      exact h (a + 1) b y v (by omega) h2 e hy hv
    · rw [if_neg e1] at hu
      by_cases e2 : a = j + 1
      · subst e2
        rw [if_pos rfl] at hu
        injection hu with hu
        subst hu
        exact h j b x v (by omega) h2 e hx hv
      · rw [if_neg e2] at hu
        exact h a b u v h1 h2 e hu hv
theorem swapL_mem {l : List Int} {j : Nat} {x y : Int} (hx : l[j]? = some x) (hy : l[j + 1]? = some y) (z : Int) : z ∈ swapL l j x y ↔ z ∈ l := by
  have hl := (List.getElem?_eq_some_iff.1 hy).1
  constructor
  · intro h
    obtain ⟨k, hk⟩ := List.getElem?_of_mem h
    rw [swapL_at hl] at hk
    split at hk
    · injection hk with hk; subst hk; exact List.mem_of_getElem? hy
    · split at hk
      · injection hk with hk; subst hk; exact List.mem_of_getElem? hx
      · exact List.mem_of_getElem? hk
  · intro h
    obtain ⟨k, hk⟩ := List.getElem?_of_mem h
    by_cases e1 : k = j
    · subst e1
      rw [hx] at hk; injection hk with hk; subst hk
      exact List.mem_of_getElem? (i := k + 1) (by rw [swapL_at hl, if_neg (by omega), if_pos rfl])
    · by_cases e2 : k = j + 1
      · subst e2
        rw [hy] at hk; injection hk with hk; subst hk
        exact List.mem_of_getElem? (i := j) (by rw [swapL_at hl, if_pos rfl])
      · exact List.mem_of_getElem? (i := k) (by rw [swapL_at hl, if_neg e1, if_neg e2]; exact hk)

/-- Strictly rising up to k. -/
def Str (l : List Int) (k : Nat) : Prop := ∀ a b x y, a < b → b < k → l[a]? = some x → l[b]? = some y → x < y
theorem Str.rise {l : List Int} {k : Nat} (h : Str l k) : Rise (l.take k) := by
  refine List.pairwise_iff_getElem.2 ?_
  intro i j hi hj hij
  simp only [List.length_take] at hi hj
  refine h i j _ _ hij (by omega) ?_ ?_
  · rw [List.getElem_take]; exact List.getElem?_eq_getElem _
  · rw [List.getElem_take]; exact List.getElem?_eq_getElem _
theorem Str.one (l : List Int) : Str l 1 := fun a b x y h1 h2 => by omega
/-- One more, which is greater than the one before it. -/
theorem Str.next {l : List Int} {k : Nat} {x y : Int} (h : Str l (k + 1)) (hx : l[k]? = some x) (hy : l[k + 1]? = some y) (hxy : x < y) : Str l (k + 1 + 1) := fun a b u v h1 h2 hu hv => by
  by_cases e : b = k + 1
  · subst e
    rw [hy] at hv; injection hv with hv; subst hv
    by_cases e' : a = k
    · subst e'; rw [hx] at hu; injection hu with hu; omega
    · have := h a k u x (by omega) (by omega) hu hx; omega
  · exact h a b u v h1 (by omega) hu hv
theorem take_mem {l : List Int} {k : Nat} {x : Int} : x ∈ l.take k ↔ ∃ a, a < k ∧ l[a]? = some x := by
  constructor
  · intro h
    obtain ⟨a, ha⟩ := List.getElem?_of_mem h
    rw [List.getElem?_take] at ha
    split at ha
    · exact ⟨a, by assumption, ha⟩
    · simp at ha
  · rintro ⟨a, h1, h2⟩
    exact List.mem_of_getElem? (i := a) (by rw [List.getElem?_take, if_pos h1]; exact h2)
/-- While doubles are left out: the first k of l are those of the first m of s, each once; the rest is as it was. -/
structure Cpt (s l : List Int) (k m : Nat) : Prop where
  len : l.length = s.length
  one : 1 ≤ k
  le : k + 1 ≤ m
  ml : m ≤ s.length
  str : Str l k
  mem : ∀ x, (∃ a, a < k ∧ l[a]? = some x) ↔ ∃ a, a < m ∧ s[a]? = some x
  rest : ∀ q, m ≤ q + 1 → l[q]? = s[q]?
  last : l[k - 1]? = s[m - 1]?
theorem Cpt.start {s : List Int} {k : Nat} {x : Int} (hs : Str s (k + 1)) (hx : s[k]? = some x) (hy : s[k + 1]? = some x) : Cpt s s (k + 1) (k + 1 + 1) :=
  ⟨rfl, by omega, by omega, (List.getElem?_eq_some_iff.1 hy).1, hs, fun z => ⟨fun ⟨a, h1, h2⟩ => ⟨a, by omega, h2⟩, fun ⟨a, h1, h2⟩ => by
    by_cases e : a = k + 1
    · subst e; rw [hy] at h2; injection h2 with h2; subst h2; exact ⟨k, by omega, hx⟩
    · exact ⟨a, by omega, h2⟩⟩, fun _ _ => rfl, by
    show s[k]? = s[k + 1]?
    rw [hx, hy]⟩
theorem Cpt.same {s l : List Int} {k m : Nat} {x : Int} (h : Cpt s l k m) (hx : s[m - 1]? = some x) (hy : s[m]? = some x) : Cpt s l k (m + 1) :=
  have h1 := h.le
  ⟨h.len, h.one, by omega, (List.getElem?_eq_some_iff.1 hy).1, h.str, fun z => by
    rw [h.mem z]
    exact ⟨fun ⟨a, h1, h2⟩ => ⟨a, by omega, h2⟩, fun ⟨a, h1, h2⟩ => by
      by_cases e : a = m
      · subst e; rw [hy] at h2; injection h2 with h2; subst h2; exact ⟨a - 1, by omega, hx⟩
      · exact ⟨a, by omega, h2⟩⟩, fun q hq => h.rest q (by omega), by
    show l[k - 1]? = s[m]?
    rw [h.last, hx, hy]⟩
theorem Cpt.more {s l : List Int} {k m : Nat} {x y : Int} (h : Cpt s l k m) (hx : s[m - 1]? = some x) (hy : s[m]? = some y) (hxy : x < y) : Cpt s (l.set k y) (k + 1) (m + 1) := by
  have h1 := h.le
  have h2 := h.one
  have hm := (List.getElem?_eq_some_iff.1 hy).1
  have hkl : k < l.length := by rw [h.len]; omega
  have hat : ∀ a, (l.set k y)[a]? = if a = k then some y else l[a]? := fun a => by
    rw [List.getElem?_set]
    by_cases e : k = a
    · subst e; simp [hkl]
    · rw [if_neg e, if_neg (fun e' => e e'.symm)]
  have hlast : l[k - 1]? = some x := by rw [h.last, hx]
  refine ⟨by simp [h.len], by omega, by omega, hm, fun a b u v ha hb hu hv => ?_, fun z => ?_, fun q hq => ?_, ?_⟩
  · rw [hat] at hu hv
    by_cases e : b = k
    · subst e
      rw [if_pos rfl] at hv; injection hv with hv; subst hv
      rw [if_neg (by omega)] at hu
      by_cases e' : a = b - 1
      · subst e'; rw [hlast] at hu; injection hu with hu; omega
      · have := h.str a (b - 1) u x (by omega) (by omega) hu hlast; omega
    · rw [if_neg e] at hv
      rw [if_neg (by omega)] at hu
      exact h.str a b u v ha (by omega) hu hv
  · constructor
    · rintro ⟨a, ha, hu⟩
      rw [hat] at hu
      split at hu
      · injection hu with hu; subst hu; exact ⟨m, by omega, hy⟩
      · obtain ⟨b, hb, hb'⟩ := (h.mem z).1 ⟨a, by omega, hu⟩
        exact ⟨b, by omega, hb'⟩
    · rintro ⟨a, ha, hu⟩
      by_cases e : a = m
      · subst e; rw [hy] at hu; injection hu with hu; subst hu; exact ⟨k, by omega, by rw [hat, if_pos rfl]⟩
      · obtain ⟨b, hb, hb'⟩ := (h.mem z).2 ⟨a, by omega, hu⟩
        exact ⟨b, by omega, by rw [hat, if_neg (by omega)]; exact hb'⟩
  · rw [hat, if_neg (by omega)]; exact h.rest q (by omega)
  · show (l.set k y)[k]? = s[m]?
    rw [hat, if_pos rfl, hy]
theorem Cpt.ends {s l : List Int} {k : Nat} (h : Cpt s l k s.length) : Rise (l.take k) ∧ (∀ x, x ∈ l.take k ↔ x ∈ s) ∧ k ≤ l.length := by
  have h1 := h.le
  have h2 := h.len
  refine ⟨h.str.rise, fun x => ?_, by omega⟩
  rw [take_mem, h.mem x, ← take_mem, List.take_length]
theorem Str.ends {s : List Int} (h : Str s s.length) : Rise s := by
  have := h.rise
  rwa [List.take_length] at this
end Pg
end Go.Proofs.Ytcbbpmknomhedaa

/- Contracts of the library's sorting of at most twelve numbers, and of its leaving out of doubles. -/
namespace Go.Proofs.Ytcbbpmknomhedaa
namespace Pg
open Go.ChangeShapes Go.WideShapes Go.ChangeAt Go.RowKit St

theorem isNaN (x : Int) (w : World) : Calls Try.prog 80 #[.int .i64 x] w fun e w' => e = .returned (.bool false) ∧ w' = w := by
  have hx : (x != x) = false := by simp
  go_enter Try.func80, Try.ntmps80
  go_wp2
  go_ret
  exact ⟨rfl, rfl⟩
theorem cmpLess (x y : Int) (w : World) : Calls Try.prog 56 #[.int .i64 x, .int .i64 y] w fun e w' => e = .returned (.bool (decide (x < y))) ∧ w' = w := by
  go_enter Try.func56, Try.ntmps56
  go_wp2_with fail
  refine (isNaN x _).mono ?_
  rintro e w1 ⟨rfl, rfl⟩
  by_cases h : x < y
  · go_wp2
    go_ret
    exact ⟨retB (by simp [h]), rfl⟩
  · go_wp2
    go_ret
    exact ⟨retB (by simp), rfl⟩
set_option maxHeartbeats 1000000 in
theorem len64 (n : Nat) (hn : n ≤ 12) (w : World) : Calls Try.prog 60 #[.int .u64 (n : Int)] w fun e w' => (∃ r, e = .returned (.int .i64 r)) ∧ w' = w := by
  have h0 : n = 0 ∨ n = 1 ∨ n = 2 ∨ n = 3 ∨ n = 4 ∨ n = 5 ∨ n = 6 ∨ n = 7 ∨ n = 8 ∨ n = 9 ∨ n = 10 ∨ n = 11 ∨ n = 12 := by omega
  rcases h0 with rfl | rfl | rfl | rfl | rfl | rfl | rfl | rfl | rfl | rfl | rfl | rfl | rfl
  all_goals
    go_enter Try.func60, Try.ntmps60
    go_wp2
    go_ret
    exact ⟨⟨_, rfl⟩, rfl⟩
theorem bitsLen (n : Nat) (hn : n ≤ 12) (w : World) : Calls Try.prog 37 #[.int .u64 (n : Int)] w fun e w' => (∃ r, e = .returned (.int .i64 r)) ∧ w' = w := by
  go_enter Try.func37, Try.ntmps37
  go_wp2_with fail
  refine (len64 n hn _).mono ?_
  rintro e w1 ⟨⟨r, rfl⟩, rfl⟩
  go_wp2
  go_ret
  exact ⟨⟨_, rfl⟩, rfl⟩
theorem grown_on {g : Nat} {u v w : World} (h : u.grownBy v (some g)) (hb : Below v.heap.size v w) : u.grownBy w (some g) :=
  ⟨hb.os.trans h.os, hb.tape.trans h.tape, hb.output.trans h.output, Nat.le_trans h.size hb.size, fun k hk hne => (hb.block k (Nat.lt_of_lt_of_le hk h.size)).trans (h.block k hk hne)⟩
theorem grown_set {g : Nat} {u v : World} (h : u.grownBy v (some g)) (o : Nat) (x : Value) : u.grownBy (v.setCell ⟨g, o, none⟩ x) (some g) := by
  have hb := (Below.refl 0 v).setCell (p := ⟨g, o, none⟩) (Nat.zero_le _) x
  exact ⟨hb.os.trans h.os, hb.tape.trans h.tape, hb.output.trans h.output, Nat.le_trans h.size hb.size, fun k hk hne => (Below.heap_setCell v ⟨g, o, none⟩ x k (fun e => hne (by subst e; rfl))).trans (h.block k hk hne)⟩
theorem grown_refl (g : Nat) (u : World) : u.grownBy u (some g) := ⟨rfl, rfl, rfl, Nat.le_refl _, fun _ _ _ => rfl⟩
theorem room_set {w : World} {g n : Nat} (h : Room w g n) (o : Nat) (x : Int) : Room (w.setCell ⟨g, o, none⟩ (.int .i64 x)) g n := fun i hi => by
  obtain ⟨⟨y, hy⟩, hf⟩ := h i hi
  refine ⟨?_, by rw [World.frozen?_setCell]; exact hf⟩
  by_cases e : o = i
  · subst e
    exact ⟨.int .i64 x, World.cell?_setCell_same' _ _ _ (by rw [hy]; rfl)⟩
  · exact ⟨y, (World.cell?_setCell_other w ⟨g, o, none⟩ ⟨g, i, none⟩ (.int .i64 x) (fun e' => e (by injection e'))).trans hy⟩

set_option maxRecDepth 100000 in
set_option maxHeartbeats 4000000 in
theorem insertionSort (g cap : Nat) (l : List Int) (hl : l.length ≤ 12) (w : World) (hr : IRow w g 0 l) (hm : Room w g l.length) :
    Calls Try.prog 50 #[.slice (some ⟨g, 0, none⟩) l.length cap, .int .i64 0, .int .i64 (l.length : Int)] w fun e w' => (∃ v, e = .returned v) ∧ ∃ s : List Int, s.length = l.length ∧ Srt s s.length ∧ (∀ x, x ∈ s ↔ x ∈ l) ∧ IRow w' g 0 s ∧ Room w' g l.length ∧ w.grownBy w' (some g) := by
  have HR : Hid (IRow w g 0 l) := hr
  have HM : Hid (Room w g l.length) := hm
  clear hr hm
  go_enter Try.func50, Try.ntmps50
  go_wp2
  go_loopw [6] (fun v wr => ∃ (i : Nat) (s : List Int), v = .int .i64 (i : Int) ∧ 1 ≤ i ∧ i ≤ l.length + 1 ∧ Hid (s.length = l.length) ∧ Hid (Srt s i) ∧ Hid (∀ x, x ∈ s ↔ x ∈ l) ∧ Hid (IRow wr g 0 s) ∧ Hid (Room wr g l.length) ∧ Hid (w.grownBy wr (some g))) (fun v _ => l.length + 1 - (intOf v).toNat)
  case atStart => exact ⟨1, l, rfl, Nat.le_refl _, by omega, rfl, fun a b x y h1 h2 => by omega, fun _ => Iff.rfl, HR.out, HM.out, grown_refl _ _⟩
  case round =>
    clear HR HM
    obtain ⟨i, s, rfl, hi1, hi2, hsl, hsrt, hmem, hrow, hroom, hgr⟩ := hrel
    by_cases hlt : i < l.length
    · have hli : (i : Int) < (l.length : Int) := by omega
      go_wp2
      go_loopw [7] (fun v wr' => ∃ (j : Nat) (s : List Int), v = .int .i64 (j : Int) ∧ j ≤ i ∧ Hid (s.length = l.length) ∧ Hid (Hole s i j) ∧ Hid (∀ x, x ∈ s ↔ x ∈ l) ∧ Hid (IRow wr' g 0 s) ∧ Hid (Room wr' g l.length) ∧ Hid (w.grownBy wr' (some g))) (fun v _ => (intOf v).toNat)
      case atStart => exact ⟨i, s, rfl, Nat.le_refl _, hsl.out, hsrt.out.hole, hmem.out, hrow.out, hroom.out, hgr.out⟩
      case round =>
        clear hsl hsrt hmem hrow hroom hgr s
        obtain ⟨j, s, rfl, hj, hsl, hhole, hmem, hrow, hroom, hgr⟩ := hrel
        cases j with
        | zero =>
          have HS : Hid (Srt s (i + 1)) := hhole.out.zero
          have e0 : ((0 : Nat) : Int) = 0 := rfl
          rw [e0]
          clear hhole e0
          go_wp2_with fail
          refine wp_region_quiet_below (by kernel_rfl) (by kernel_rfl) ?_
          repeat (go_big_quiet_step (fail))
          refine wpQuiet_nil ?_
          intro _ hw'
          obtain ⟨⟨dq, osq⟩, hw''⟩ := hw'
          subst hw''
          have hbq := below_regrown wr dq osq
          have HROW : Hid (IRow (Sort.grow (redrawn wr dq) osq) g 0 s) := hrow.out.on hbq
          have HROOM : Hid (Room (Sort.grow (redrawn wr dq) osq) g l.length) := hroom.out.on hbq
          have HGR : Hid (w.grownBy (Sort.grow (redrawn wr dq) osq) (some g)) := grown_on hgr.out hbq
          clear hrow hroom hgr hbq
          generalize Sort.grow (redrawn wr dq) osq = w4 at *
          go_wp2
          go_roundw
          case rel => exact ⟨i + 1, s, by go_num, by omega, by omega, hsl.out, HS.out, hmem.out, HROW.out, HROOM.out, HGR.out⟩
          case measure => simp [intOf]; omega
        | succ k =>
          have hk1 : k + 1 < s.length := by rw [hsl.out]; omega
          have hk0 : k < s.length := by omega
          have c1 := hrow.out (k + 1) _ (List.getElem?_eq_getElem hk1)
          have c0 := hrow.out k _ (List.getElem?_eq_getElem hk0)
          have X0 : Hid (s[k]? = some s[k]) := List.getElem?_eq_getElem hk0
          have X1 : Hid (s[k + 1]? = some s[k + 1]) := List.getElem?_eq_getElem hk1
          generalize s[k] = x at *
          generalize s[k + 1] = y at *
          rw [Nat.zero_add] at c0 c1
          have hcast : ((k + 1 : Nat) : Int) = (k : Int) + 1 := by omega
          rw [hcast]
          have hki0 : (0 : Int) ≤ (k : Int) := by omega
          have hki1 : (0 : Int) ≤ (k : Int) + 1 := by omega
          have hki2 : (k : Int) + 1 < (l.length : Int) := by omega
          have hki3 : (k : Int) < (l.length : Int) := by omega
          have hkp : (0 : Int) < (k : Int) + 1 := by omega
          have htn : ((k : Int) + 1).toNat = k + 1 := by omega
          have hsub : (k : Int) + 1 - 1 = (k : Int) := by omega
          have hws : IntKind.i64.wrap (k : Int) = (k : Int) := by simp [IntKind.wrap, IntKind.signed, IntKind.bits]; omega
          have e0 := cell_regrown c0
          have e1 := cell_regrown c1
          clear hcast hk0 hk1
          have cL : ∀ d os, Calls Try.prog 56 #[.int .i64 y, .int .i64 x] (Sort.grow (redrawn wr d) os) fun e w'' => e = .returned (.bool (decide (y < x))) ∧ ∃ p : Regrown, w'' = Sort.grow (redrawn wr p.d) p.os := by
            intro d os
            refine Calls.regrown_of ((cmpLess y x (Sort.grow (redrawn wr d) os)).mono ?_)
            rintro e w' ⟨rfl, rfl⟩
            exact ⟨rfl, Below.refl _ _⟩
          cases hq : decide (y < x)
          · rw [hq] at cL
            simp only [decide_eq_false_iff_not] at hq
            have HS : Hid (Srt s (i + 1)) := hhole.out.done X0.out X1.out (by omega)
            clear hhole hq X0 X1
            go_wp2_with fail
            refine wp_region_quiet_below (by kernel_rfl) (by kernel_rfl) ?_
            repeat (go_big_quiet_step ((go_at_call 56; exact cL _ _)))
            refine wpQuiet_nil ?_
            intro _ hw'
            obtain ⟨⟨dq, osq⟩, hw''⟩ := hw'
            subst hw''
            have hbq := below_regrown wr dq osq
            have HROW : Hid (IRow (Sort.grow (redrawn wr dq) osq) g 0 s) := hrow.out.on hbq
            have HROOM : Hid (Room (Sort.grow (redrawn wr dq) osq) g l.length) := hroom.out.on hbq
            have HGR : Hid (w.grownBy (Sort.grow (redrawn wr dq) osq) (some g)) := grown_on hgr.out hbq
            clear hrow hroom hgr hbq c0 c1 e0 e1 cL
            generalize Sort.grow (redrawn wr dq) osq = w4 at *
            go_wp2
            go_roundw
            case rel => exact ⟨i + 1, s, by go_num, by omega, by omega, hsl.out, HS.out, hmem.out, HROW.out, HROOM.out, HGR.out⟩
            case measure => simp [intOf]; omega
          · rw [hq] at cL
            simp only [decide_eq_true_eq] at hq
            have HSW : Hid (Hole (swapL s k x y) i k) := hhole.out.swap (by rw [hsl.out]; exact hlt) hj X0.out X1.out hq
            have HMW : Hid (∀ z, z ∈ swapL s k x y ↔ z ∈ l) := fun z => (swapL_mem X0.out X1.out z).trans (hmem.out z)
            clear hhole hq X0 X1
            go_wp2_with fail
            refine wp_region_quiet_below (by kernel_rfl) (by kernel_rfl) ?_
            repeat (go_big_quiet_step ((go_at_call 56; exact cL _ _)))
            refine wpQuiet_nil ?_
            intro _ hw'
            obtain ⟨⟨dq, osq⟩, hw''⟩ := hw'
            subst hw''
            have hbq := below_regrown wr dq osq
            have d0 := e0 dq osq
            have d1 := e1 dq osq
            have HROW : Hid (IRow (Sort.grow (redrawn wr dq) osq) g 0 s) := hrow.out.on hbq
            have HROOM : Hid (Room (Sort.grow (redrawn wr dq) osq) g l.length) := hroom.out.on hbq
            have HGR : Hid (w.grownBy (Sort.grow (redrawn wr dq) osq) (some g)) := grown_on hgr.out hbq
            clear hrow hroom hgr hbq e0 e1 cL
            generalize Sort.grow (redrawn wr dq) osq = w4 at *
            clear c0 c1
            obtain ⟨_, f0⟩ := HROOM.out k (by omega)
            obtain ⟨_, f1⟩ := HROOM.out (k + 1) (by omega)
            go_wp2_with fail
            go_region
            have HR2 : Hid (IRow ((w4.drew.setCell ⟨g, k + 1, none⟩ (.int .i64 x)).setCell ⟨g, k, none⟩ (.int .i64 y)) g 0 (swapL s k x y)) := irow_set y (irow_set x (HROW.out.on (Below.refl _ _).drew))
            have HM2 : Hid (Room ((w4.drew.setCell ⟨g, k + 1, none⟩ (.int .i64 x)).setCell ⟨g, k, none⟩ (.int .i64 y)) g l.length) := room_set (room_set (HROOM.out.on (Below.refl _ _).drew) _ _) _ _
            have HG2 : Hid (w.grownBy ((w4.drew.setCell ⟨g, k + 1, none⟩ (.int .i64 x)).setCell ⟨g, k, none⟩ (.int .i64 y)) (some g)) := grown_set (grown_set (grown_on HGR.out (Below.refl _ _).drew) _ _) _ _
            have HL2 : Hid ((swapL s k x y).length = l.length) := by show _ = _; rw [swapL_len]; exact hsl.out
            clear HROW HROOM HGR d0 d1 f0 f1
            go_wp2
            go_roundw
            case rel => exact ⟨k, swapL s k x y, by go_num, by omega, HL2.out, HSW.out, HMW.out, HR2.out, HM2.out, HG2.out⟩
            case measure => simp [intOf]
    · have HN : Hid (Srt s s.length) := by
        show Srt s s.length
        rw [hsl.out]
        intro a b x y h1 h2 hx hy
        exact hsrt.out a b x y h1 (by omega) hx hy
      have hli : ¬ (i : Int) < (l.length : Int) := by omega
      go_wp2
      go_end0
      exact ⟨⟨_, rfl⟩, s, hsl.out, HN.out, hmem.out, hrow.out, hroom.out, hgr.out⟩
/-- A row has been sorted. -/
def Sorted (g : Nat) (l : List Int) (w w' : World) : Prop := ∃ s : List Int, s.length = l.length ∧ Srt s s.length ∧ (∀ x, x ∈ s ↔ x ∈ l) ∧ IRow w' g 0 s ∧ Room w' g l.length ∧ w.grownBy w' (some g)
set_option maxRecDepth 100000 in
set_option maxHeartbeats 1000000 in
theorem pdqSort (g cap : Nat) (l : List Int) (hl : l.length ≤ 12) (lim : Int) (w : World) (hr : IRow w g 0 l) (hm : Room w g l.length) :
    Calls Try.prog 36 #[.slice (some ⟨g, 0, none⟩) l.length cap, .int .i64 0, .int .i64 (l.length : Int), .int .i64 lim] w fun e w' => (∃ v, e = .returned v) ∧ Sorted g l w w' := by
  have HR : Hid (IRow w g 0 l) := hr
  have HM : Hid (Room w g l.length) := hm
  clear hr hm
  have hli : (l.length : Int) ≤ 12 := by omega
  have hws : IntKind.i64.wrap (l.length : Int) = (l.length : Int) := by simp [IntKind.wrap, IntKind.signed, IntKind.bits]; omega
  go_enter Try.func36, Try.ntmps36
  go_wp2
  go_loopw [1, 2] (fun a b wr => a = .int .i64 0 ∧ b = .int .i64 (l.length : Int) ∧ wr = w) (fun _ _ _ => 0)
  case atStart => exact ⟨rfl, rfl, rfl⟩
  case round =>
    obtain ⟨rfl, rfl, rfl⟩ := hrel
    go_wp2_with fail
    refine (insertionSort g cap l hl _ HR.out HM.out).mono ?_
    rintro e w1 ⟨⟨v, rfl⟩, hs⟩
    have HS : Hid (Sorted g l wr w1) := hs
    clear hs
    go_wp2
    refine bodyPost_ret (results_none rfl _ _ _) rfl ?_
    exact ⟨⟨_, rfl⟩, HS.out⟩
set_option maxHeartbeats 1000000 in
theorem slicesSort (g cap : Nat) (l : List Int) (hl : l.length ≤ 12) (w : World) (hr : IRow w g 0 l) (hm : Room w g l.length) :
    Calls Try.prog 20 #[.slice (some ⟨g, 0, none⟩) l.length cap] w fun e w' => (∃ v, e = .returned v) ∧ Sorted g l w w' := by
  have HR : Hid (IRow w g 0 l) := hr
  have HM : Hid (Room w g l.length) := hm
  clear hr hm
  have hwu : IntKind.u64.wrap (l.length : Int) = (l.length : Int) := by simp [IntKind.wrap, IntKind.signed, IntKind.bits]; omega
  go_enter Try.func20, Try.ntmps20
  go_wp2_with fail
  refine (bitsLen l.length hl _).mono ?_
  rintro e w1 ⟨⟨r, rfl⟩, rfl⟩
  go_wp2_with fail
  refine (pdqSort g cap l hl r _ HR.out HM.out).mono ?_
  rintro e w2 ⟨⟨v, rfl⟩, hs⟩
  have HS : Hid (Sorted g l w1 w2) := hs
  clear hs
  go_wp2
  go_end0
  exact ⟨⟨_, rfl⟩, HS.out⟩
end Pg
end Go.Proofs.Ytcbbpmknomhedaa

/- Contract of the library's leaving out of doubles. -/
namespace Go.Proofs.Ytcbbpmknomhedaa
namespace Pg
open Go.ChangeShapes Go.WideShapes Go.ChangeAt Go.RowKit St

theorem grown_cells {g : Nat} {u : World} : ∀ (vs : List Value) (o : Nat) (v : World), u.grownBy v (some g) → u.grownBy (v.setCells g o vs) (some g)
  | [], _, _, h => h
  | x :: r, o, _, h => grown_cells r (o + 1) _ (grown_set h o x)
set_option maxRecDepth 100000 in
set_option maxHeartbeats 4000000 in
theorem slicesCompact (g cap : Nat) (s : List Int) (hl : s.length ≤ 12) (hcap : s.length ≤ cap) (hs : Srt s s.length) (w : World) (hr : IRow w g 0 s) (hm : Room w g s.length) :
    Calls Try.prog 21 #[.slice (some ⟨g, 0, none⟩) s.length cap] w fun e w' => ∃ r : List Int, e = .returned (.slice (some ⟨g, 0, none⟩) r.length cap) ∧ Rise r ∧ (∀ x, x ∈ r ↔ x ∈ s) ∧ r.length ≤ s.length ∧ IRow w' g 0 r ∧ Room w' g r.length ∧ w.grownBy w' (some g) := by
  have HR : Hid (IRow w g 0 s) := hr
  have HM : Hid (Room w g s.length) := hm
  have HS : Hid (Srt s s.length) := hs
  clear hr hm hs
  by_cases hshort : s.length < 2
  · have hsi : (s.length : Int) < 2 := by omega
    have HE : Hid (Rise s) := by
      show Rise s
      refine List.pairwise_iff_getElem.2 ?_
      intro i j hi hj hij
      omega
    go_enter Try.func21, Try.ntmps21
    go_wp2
    go_ret
    exact ⟨s, rfl, HE.out, fun _ => Iff.rfl, Nat.le_refl _, HR.out, HM.out, grown_refl _ _⟩
  · have hsi : ¬ (s.length : Int) < 2 := by omega
    go_enter Try.func21, Try.ntmps21
    go_wp2
    go_loopw [3] (fun v wr => ∃ k : Nat, v = .int .i64 ((k : Int) + 1) ∧ k + 1 ≤ s.length ∧ Hid (Str s (k + 1)) ∧ Hid (Below w.heap.size w wr)) (fun v _ => s.length - (intOf v).toNat)
    case atStart => exact ⟨0, rfl, by omega, Str.one s, Below.refl _ _⟩
    case round =>
      obtain ⟨k, rfl, hk, hstr, hb⟩ := hrel
      by_cases hlt : k + 1 < s.length
      · have hk0 : k < s.length := by omega
        have R0 : Hid (IRow wr g 0 s) := HR.out.on hb.out
        have M0 : Hid (Room wr g s.length) := HM.out.on hb.out
        have c1 := R0.out (k + 1) _ (List.getElem?_eq_getElem hlt)
        have c0 := R0.out k _ (List.getElem?_eq_getElem hk0)
        have X0 : Hid (s[k]? = some s[k]) := List.getElem?_eq_getElem hk0
        have X1 : Hid (s[k + 1]? = some s[k + 1]) := List.getElem?_eq_getElem hlt
        generalize s[k] = x at *
        generalize s[k + 1] = y at *
        have hxy : x ≤ y := HS.out k (k + 1) x y (by omega) hlt X0.out X1.out
        rw [Nat.zero_add] at c0 c1
        have hki0 : (0 : Int) ≤ (k : Int) := by omega
        have hki1 : (0 : Int) ≤ (k : Int) + 1 := by omega
        have hki2 : (k : Int) + 1 < (s.length : Int) := by omega
        have hki3 : (k : Int) < (s.length : Int) := by omega
        have htn : ((k : Int) + 1).toNat = k + 1 := by omega
        have hsub : (k : Int) + 1 - 1 = (k : Int) := by omega
        have hws : IntKind.i64.wrap (k : Int) = (k : Int) := by simp [IntKind.wrap, IntKind.signed, IntKind.bits]; omega
        have e0 := cell_regrown c0
        have e1 := cell_regrown c1
        by_cases hq : y = x
        · subst hq
          have HC : Hid (Cpt s s (k + 1) (k + 1 + 1)) := Cpt.start hstr.out X0.out X1.out
          clear hstr X0 X1 hxy
          go_wp2_with fail
          refine wp_region_quiet_below (by kernel_rfl) (by kernel_rfl) ?_
          repeat (go_big_quiet_step (fail))
          refine wpQuiet_nil ?_
          intro _ hw'
          obtain ⟨⟨dq, osq⟩, hw''⟩ := hw'
          subst hw''
          have hbq := below_over hb.out (below_regrown wr dq osq)
          have HROW : Hid (IRow (Sort.grow (redrawn wr dq) osq) g 0 s) := HR.out.on hbq
          have HROOM : Hid (Room (Sort.grow (redrawn wr dq) osq) g s.length) := HM.out.on hbq
          have HGR : Hid (w.grownBy (Sort.grow (redrawn wr dq) osq) (some g)) := grown_on (grown_refl _ _) hbq
          clear hb R0 M0 hbq c0 c1 e0 e1
          generalize Sort.grow (redrawn wr dq) osq = w4 at *
          have hkl : (k : Int) + 1 ≤ (s.length : Int) := by omega
          go_wp2
          obtain ⟨d, hd⟩ : ∃ d, s.length - (k + 1) = d := ⟨_, rfl⟩
          obtain ⟨dc, hdc⟩ : ∃ dc, cap - (k + 1) = dc := ⟨_, rfl⟩
          rw [hd, hdc]
          have HD : Hid (s.length = k + 1 + d) := by show _ = _; omega
          have hd1 : 1 ≤ d := by omega
          have hd12 : d ≤ 12 := by omega
          clear hd hdc
          go_loopw [3, 5] (fun a b wr => ∃ (q kk : Nat) (l : List Int), a = .int .i64 (kk : Int) ∧ b = .int .i64 ((q : Int) + 1) ∧ q + 1 ≤ d ∧ kk ≤ k + 1 + q ∧ Hid (Cpt s l kk (k + 1 + (q + 1))) ∧ Hid (IRow wr g 0 l) ∧ Hid (Room wr g s.length) ∧ Hid (w.grownBy wr (some g))) (fun _ b _ => d + 1 - (intOf b).toNat)
          case atStart => exact ⟨0, k + 1, s, by simp, rfl, hd1, Nat.le_refl _, HC.out, HROW.out, HROOM.out, HGR.out⟩
          case round =>
            clear HC HROW HROOM HGR HR HM
            obtain ⟨q, kk, l, rfl, rfl, hq, hkk, hc, hrow, hroom, hgr⟩ := hrel
            have hcl := hc.out.len
            by_cases hlt2 : q + 1 < d
            · have hm : k + 1 + (q + 1) < s.length := by rw [HD.out]; omega
              have hm0 : k + 1 + q < s.length := by omega
              have X1 : Hid (s[k + 1 + (q + 1)]? = some s[k + 1 + (q + 1)]) := List.getElem?_eq_getElem hm
              have X0 : Hid (s[k + 1 + (q + 1) - 1]? = some s[k + 1 + q]) := List.getElem?_eq_getElem hm0
              have c1 := hrow.out (k + 1 + (q + 1)) _ ((hc.out.rest _ (by omega)).trans X1.out)
              have c0 := hrow.out (k + 1 + q) _ ((hc.out.rest _ (by omega)).trans X0.out)
              have hxy : s[k + 1 + q] ≤ s[k + 1 + (q + 1)] := HS.out (k + 1 + q) (k + 1 + (q + 1)) _ _ (by omega) hm X0.out X1.out
              generalize s[k + 1 + q] = x at *
              generalize s[k + 1 + (q + 1)] = y' at *
              rw [Nat.zero_add] at c0 c1
              have hqi0 : (0 : Int) ≤ (q : Int) := by omega
              have hqi1 : (0 : Int) ≤ (q : Int) + 1 := by omega
              have hqi2 : (q : Int) + 1 < (d : Int) := by omega
              have hqi3 : (q : Int) < (d : Int) := by omega
              have hqn : ((q : Int) + 1).toNat = q + 1 := by omega
              have hqs : (q : Int) + 1 - 1 = (q : Int) := by omega
              have hqw : IntKind.i64.wrap (q : Int) = (q : Int) := by simp [IntKind.wrap, IntKind.signed, IntKind.bits]; omega
              have e0 := cell_regrown c0
              have e1 := cell_regrown c1
              by_cases hq2 : y' = x
              · subst hq2
                have hqb : (y' != y') = false := by simp
                have HC2 : Hid (Cpt s l kk (k + 1 + (q + 1 + 1))) := hc.out.same X0.out X1.out
                clear hc X0 X1 hxy
                go_wp2_with fail
                refine wp_region_quiet_below (by kernel_rfl) (by kernel_rfl) ?_
                repeat (go_big_quiet_step (fail))
                refine wpQuiet_nil ?_
                intro _ hw'
                obtain ⟨⟨dq, osq⟩, hw''⟩ := hw'
                subst hw''
                have hbq := below_regrown wr dq osq
                have HR2 : Hid (IRow (Sort.grow (redrawn wr dq) osq) g 0 l) := hrow.out.on hbq
                have HM2 : Hid (Room (Sort.grow (redrawn wr dq) osq) g s.length) := hroom.out.on hbq
                have HG2 : Hid (w.grownBy (Sort.grow (redrawn wr dq) osq) (some g)) := grown_on hgr.out hbq
                clear hrow hroom hgr hbq c0 c1 e0 e1
                generalize Sort.grow (redrawn wr dq) osq = w5 at *
                go_wp2
                go_roundw
                case rel => exact ⟨q + 1, kk, l, rfl, by go_num, by omega, by omega, HC2.out, HR2.out, HM2.out, HG2.out⟩
                case measure => simp [intOf]; omega
              · have hqb : (y' != x) = true := by simpa using hq2
                have HC2 : Hid (Cpt s (l.set kk y') (kk + 1) (k + 1 + (q + 1 + 1))) := hc.out.more X0.out X1.out (by omega)
                have hkl : (kk : Int) < (s.length : Int) := by omega
                have hkl0 : (0 : Int) ≤ (kk : Int) := by omega
                clear hc X0 X1 hxy
                go_wp2_with fail
                refine wp_region_quiet_below (by kernel_rfl) (by kernel_rfl) ?_
                repeat (go_big_quiet_step (fail))
                refine wpQuiet_nil ?_
                intro _ hw'
                obtain ⟨⟨dq, osq⟩, hw''⟩ := hw'
                subst hw''
                have hbq := below_regrown wr dq osq
                have HR1 : Hid (IRow (Sort.grow (redrawn wr dq) osq) g 0 l) := hrow.out.on hbq
                have HM1 : Hid (Room (Sort.grow (redrawn wr dq) osq) g s.length) := hroom.out.on hbq
                have HG1 : Hid (w.grownBy (Sort.grow (redrawn wr dq) osq) (some g)) := grown_on hgr.out hbq
                have d1 := e1 dq osq
                clear hrow hroom hgr hbq c0 c1 e0 e1
                generalize Sort.grow (redrawn wr dq) osq = w5 at *
                obtain ⟨⟨z, f0⟩, f1⟩ := HM1.out kk (by omega)
                have HR2 : Hid (IRow (w5.setCell ⟨g, kk, none⟩ (.int .i64 y')) g 0 (l.set kk y')) := irow_set y' HR1.out
                have HM2 : Hid (Room (w5.setCell ⟨g, kk, none⟩ (.int .i64 y')) g s.length) := room_set HM1.out _ _
                have HG2 : Hid (w.grownBy (w5.setCell ⟨g, kk, none⟩ (.int .i64 y')) (some g)) := grown_set HG1.out _ _
                clear HR1 HM1 HG1
                go_wp2
                go_roundw
                case rel => exact ⟨q + 1, kk + 1, l.set kk y', by go_num, by go_num, by omega, by omega, HC2.out, HR2.out, HM2.out, HG2.out⟩
                case measure => simp [intOf]; omega
            · have hqd : k + 1 + (q + 1) = s.length := by rw [HD.out]; omega
              have HC2 : Hid (Cpt s l kk s.length) := by rw [← hqd]; exact hc.out
              have hqi2 : ¬ (q : Int) + 1 < (d : Int) := by omega
              have hkl : (kk : Int) ≤ (s.length : Int) := by omega
              have hkl0 : (0 : Int) ≤ (kk : Int) := by omega
              have hkc : (kk : Int) ≤ (cap : Int) := by omega
              have hcl2 : ∀ ty, (Builtin.clear_ #[30] ty #[.slice (some ⟨g, kk, none⟩) (s.length - kk) (cap - kk)]).run Try.prog wr = .ok (.tuple #[]) (wr.setCells g kk (List.replicate (s.length - kk) (.int .i64 0))) := fun ty =>
                Lib.run_clear_slice wr 30 2 ty (.int .i64 0) Try.underlying30 Try.zeroValue2 rfl rfl g kk (s.length - kk) (cap - kk) (by omega) (fun j hj => by obtain ⟨⟨z, hz⟩, _⟩ := hroom.out (kk + j) (by omega); rw [hz]; rfl) (fun j hj => (hroom.out (kk + j) (by omega)).2)
              have HR2 : Hid (IRow (wr.setCells g kk (List.replicate (s.length - kk) (.int .i64 0))) g 0 (l.take kk)) := fun j x hj => by
                rw [List.getElem?_take] at hj
                split at hj
                · rw [World.cell?_setCells_out g _ kk wr ⟨g, 0 + j, none⟩ (fun _ _ => .inl (by show 0 + j < kk; omega))]
                  exact hrow.out j x hj
                · simp at hj
              have HM2 : Hid (Room (wr.setCells g kk (List.replicate (s.length - kk) (.int .i64 0))) g kk) := fun j hj => by
                obtain ⟨⟨z, hz⟩, hf⟩ := hroom.out j (by omega)
                exact ⟨⟨z, by rw [World.cell?_setCells_out g _ kk wr ⟨g, j, none⟩ (fun _ _ => .inl hj)]; exact hz⟩, by rw [World.frozen?_setCells]; exact hf⟩
              have HG2 : Hid (w.grownBy (wr.setCells g kk (List.replicate (s.length - kk) (.int .i64 0))) (some g)) := grown_cells _ _ _ hgr.out
              obtain ⟨hE1, hE2, hE3⟩ := HC2.out.ends
              have HL : Hid ((l.take kk).length = kk) := by show _ = _; rw [List.length_take]; omega
              have HE1 : Hid (Rise (l.take kk)) := hE1
              have HE2 : Hid (∀ x, x ∈ l.take kk ↔ x ∈ s) := hE2
              clear hE1 hE2 hE3 hc HC2 hrow hroom hgr
              go_wp2
              go_ret
              exact ⟨l.take kk, by rw [HL.out]; rfl, HE1.out, HE2.out, by rw [HL.out]; omega, HR2.out, by rw [HL.out]; exact HM2.out, HG2.out⟩
        · have hqb : (y == x) = false := by simpa using hq
          have HN : Hid (Str s (k + 1 + 1)) := hstr.out.next X0.out X1.out (by omega)
          clear hstr X0 X1 hxy
          go_wp2_with fail
          refine wp_region_quiet_below (by kernel_rfl) (by kernel_rfl) ?_
          repeat (go_big_quiet_step (fail))
          refine wpQuiet_nil ?_
          intro _ hw'
          obtain ⟨⟨dq, osq⟩, hw''⟩ := hw'
          subst hw''
          have HBQ : Hid (Below w.heap.size w (Sort.grow (redrawn wr dq) osq)) := below_over hb.out (below_regrown wr dq osq)
          clear hb R0 M0 c0 c1 e0 e1
          generalize Sort.grow (redrawn wr dq) osq = w4 at *
          go_wp2
          go_roundw
          case rel => exact ⟨k + 1, by go_num, by omega, HN.out, HBQ.out⟩
          case measure => simp [intOf]; omega
      · have hke : k + 1 = s.length := by omega
        have HE : Hid (Rise s) := Str.ends (by rw [← hke]; exact hstr.out)
        have hki2 : ¬ (k : Int) + 1 < (s.length : Int) := by omega
        clear hstr
        go_wp2
        go_ret
        exact ⟨s, rfl, HE.out, fun _ => Iff.rfl, Nat.le_refl _, HR.out.on hb.out, HM.out.on hb.out, grown_on (grown_refl _ _) hb.out⟩
end Pg
end Go.Proofs.Ytcbbpmknomhedaa

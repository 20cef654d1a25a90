/- Rows of steps that a call has made. -/
import Derived.Test.YtinanjjhkddikaaGreatJRow2
import Derived.Test.YtinanjjhkddikaaGreatJFm0
import Derived.Deep.Cut
import Derived.Deep.RegionHeld3
import Derived.Laws.EntriesVeiled
import Derived.Deep.RegionWith
import Derived.BigQuiet
import Derived.Lib.QuietBelow
namespace Go.Proofs.YtinanjjhkddikaaGreat
namespace St
open Go.ChangeShapes Go.WideShapes Go.ChangeAt Go.RowKit

/-- The cells of steps, one behind the other. -/
def flat (l : List Tx.Ins) : List Value := l.flatMap fun x => [.int .i64 x.1, .int .i64 x.2.1, .int .i64 x.2.2]
theorem flat_snoc (l : List Tx.Ins) (x : Tx.Ins) : flat (l ++ [x]) = flat l ++ [.int .i64 x.1, .int .i64 x.2.1, .int .i64 x.2.2] := by simp [flat]
theorem flat_at (l : List Tx.Ins) : ∀ (j : Nat) (x : Tx.Ins), l[j]? = some x → (flat l)[j * 3]? = some (.int .i64 x.1) ∧ (flat l)[j * 3 + 1]? = some (.int .i64 x.2.1) ∧ (flat l)[j * 3 + 2]? = some (.int .i64 x.2.2) := by
  induction l with
  | nil => intro j x h; simp at h
  | cons y l ih =>
    intro j x h
    have e : flat (y :: l) = .int .i64 y.1 :: .int .i64 y.2.1 :: .int .i64 y.2.2 :: flat l := by simp [flat]
    rw [e]
    cases j with
    | zero => simp at h; subst h; exact ⟨rfl, rfl, rfl⟩
    | succ j =>
      have h' : l[j]? = some x := by simpa using h
      have := ih j x h'
      have e3 : (j + 1) * 3 = j * 3 + 3 := by omega
      rw [e3]
      simpa using this

/-- A row of steps that the call has made: the slice, its steps, room to write. -/
def Got (B : Nat) (w : World) (v : Value) (l : List Tx.Ins) : Prop :=
  ∃ g cap, v = .slice (some ⟨g, 0, none⟩) l.length cap ∧ B ≤ g ∧ g < w.heap.size ∧ Row w g 0 l ∧ Room w g (l.length * 3)
theorem got_of {w : World} {B : Nat} {e : TypeId} {v : Value} {l : List Tx.Ins} (h : w.ownsRow B e 3 v l.length (flat l)) (hv : v ≠ .slice none 0 0) : Got B w v l := by
  have hc := @World.ownsRow.cells w B e 3 v l.length (flat l) h
  have hl := @World.ownsRow.lt w B e 3 v l.length (flat l) h
  have h' := h
  obtain ⟨_, ⟨h, _⟩ | ⟨g, cap, cur, rfl, hB, _, hcap, _⟩⟩ := h
  · exact absurd h hv
  · refine ⟨g, cap, rfl, hB, (hl g rfl).2, fun j x hj => ?_, room_own h' hcap⟩
    obtain ⟨f0, f1, f2⟩ := flat_at l j x hj
    have g0 := hc (g := g) rfl _ _ f0
    have g1 := hc (g := g) rfl _ _ f1
    have g2 := hc (g := g) rfl _ _ f2
    simp only [Go.WideShapes.add_plain] at g0 g1 g2
    exact ⟨g0, by simpa [Nat.add_assoc] using g1, by simpa [Nat.add_assoc] using g2⟩
theorem Got.on {B : Nat} {u w : World} {v : Value} {l : List Tx.Ins} (h : Got B u v l) (hb : Below u.heap.size u w) : Got B w v l := by
  obtain ⟨g, cap, hv, h1, h2, h3, h4⟩ := h
  exact ⟨g, cap, hv, h1, Nat.lt_of_lt_of_le h2 hb.size, h3.on hb, h4.on hb⟩
theorem got_nil (w : World) (B : Nat) (hB : B ≤ w.heap.size) (t : TypeId) : Got B (w.alloc (.cells #[] t)) (.slice (some ⟨w.heap.size, 0, none⟩) 0 0) [] :=
  ⟨w.heap.size, 0, rfl, hB, by simp, fun j x h => by simp at h, fun i h => by simp at h⟩
theorem got_nil2 (w : World) (o : Obj) (B : Nat) (hB : B ≤ w.heap.size) (t : TypeId) : Got B ((w.alloc o).alloc (.cells #[] t)) (.slice (some ⟨w.heap.size + 1, 0, none⟩) 0 0) [] :=
  ⟨w.heap.size + 1, 0, rfl, by omega, by simp, fun j x h => by simp at h, fun i h => by simp at h⟩
theorem own_base {w : World} {B B' : Nat} {e : TypeId} {q n : Nat} {x : Value} {xs : List Value} (h : w.ownsRow B e q x n xs) (hB : B' ≤ B) : w.ownsRow B' e q x n xs := by
  obtain ⟨q1, q2 | ⟨g1, c1, cur1, q3, q4, q5⟩⟩ := h
  · exact ⟨q1, Or.inl q2⟩
  · exact ⟨q1, Or.inr ⟨g1, c1, cur1, q3, Nat.le_trans hB q4, q5⟩⟩
theorem own_ne {w : World} {B B' : Nat} {e e' : TypeId} {q q' n m : Nat} {x y : Value} {xs ys : List Value} (h : w.ownsRow B e q x n xs) (h' : w.ownsRow B' e' q' y m ys) (hne : e ≠ e') {g : Nat} (hg : x.ownBlock = some g) : y.ownBlock ≠ some g := by
  intro hy
  obtain ⟨_, ⟨rfl, _⟩ | ⟨g1, c1, cur1, rfl, _, hb1, _⟩⟩ := h
  · simp [Value.ownBlock] at hg
  · obtain ⟨_, ⟨rfl, _⟩ | ⟨g2, c2, cur2, rfl, _, hb2, _⟩⟩ := h'
    · simp [Value.ownBlock] at hy
    · simp only [Value.ownBlock, Option.some.injEq] at hg hy
      subst hg hy
      rw [hb1] at hb2
      simp at hb2
      exact hne hb2.2
theorem keep_own {u v : World} {B n q : Nat} {e : TypeId} {x : Value} {xs : List Value} (h : u.ownsRow B e q x n xs) (hb : Below u.heap.size u v) : v.ownsRow B e q x n xs :=
  h.kept (row := none) ⟨hb.os, hb.tape, hb.output, hb.size, fun k hk _ => hb.block k hk⟩ (by
    cases hx : x.ownBlock with
    | none => exact Or.inl rfl
    | some g => exact Or.inr (by simp))

/-- The cells of steps, where they lie. -/
theorem flat_len (l : List Tx.Ins) : (flat l).length = l.length * 3 := by
  induction l with
  | nil => rfl
  | cons x l ih => have e : flat (x :: l) = .int .i64 x.1 :: .int .i64 x.2.1 :: .int .i64 x.2.2 :: flat l := by simp [flat]
                   rw [e]; simp [ih]; omega
theorem flat_append (l r : List Tx.Ins) : flat (l ++ r) = flat l ++ flat r := by simp [flat]
theorem flat_one (l : List Tx.Ins) : ∀ u ∈ flat l, u.oneCell' = true := by
  intro u hu
  obtain ⟨x, _, hx⟩ := List.mem_flatMap.1 hu
  simp at hx
  rcases hx with rfl | rfl | rfl <;> rfl
theorem flat_get {l : List Tx.Ins} {j : Nat} {u : Value} (h : (flat l)[j]? = some u) : ∃ x, l[j / 3]? = some x ∧ ((j % 3 = 0 ∧ u = .int .i64 x.1) ∨ (j % 3 = 1 ∧ u = .int .i64 x.2.1) ∨ (j % 3 = 2 ∧ u = .int .i64 x.2.2)) := by
  have hj : j < (flat l).length := (List.getElem?_eq_some_iff.1 h).1
  rw [flat_len] at hj
  have hq : j / 3 < l.length := by omega
  refine ⟨l[j / 3], List.getElem?_eq_getElem hq, ?_⟩
  obtain ⟨f0, f1, f2⟩ := flat_at l (j / 3) _ (List.getElem?_eq_getElem hq)
  have hm : j % 3 = 0 ∨ j % 3 = 1 ∨ j % 3 = 2 := by omega
  rcases hm with hm | hm | hm
  · refine .inl ⟨hm, ?_⟩
    have e : j / 3 * 3 = j := by omega
    rw [e, h] at f0; exact Option.some.inj f0
  · refine .inr (.inl ⟨hm, ?_⟩)
    have e : j / 3 * 3 + 1 = j := by omega
    rw [e, h] at f1; exact Option.some.inj f1
  · refine .inr (.inr ⟨hm, ?_⟩)
    have e : j / 3 * 3 + 2 = j := by omega
    rw [e, h] at f2; exact Option.some.inj f2
theorem Row.flat {w : World} {g o : Nat} {l : List Tx.Ins} (h : Row w g o l) : ∀ j u, (flat l)[j]? = some u → w.cell? ((⟨g, o, none⟩ : Addr).add j) = some u := by
  intro j u hu
  obtain ⟨x, hx, hh⟩ := flat_get hu
  obtain ⟨h0, h1, h2⟩ := h _ _ hx
  rw [Go.WideShapes.add_plain]
  rcases hh with ⟨hm, rfl⟩ | ⟨hm, rfl⟩ | ⟨hm, rfl⟩
  · have e : o + j / 3 * 3 = o + j := by omega
    rw [e] at h0; exact h0
  · have e : o + j / 3 * 3 + 1 = o + j := by omega
    rw [e] at h1; exact h1
  · have e : o + j / 3 * 3 + 2 = o + j := by omega
    rw [e] at h2; exact h2
/-- A literal of steps. -/
theorem got_lit (w : World) (B : Nat) (hB : B ≤ w.heap.size) (l : List Tx.Ins) (cap : Nat) (t : TypeId) (cs : Array Value) (hcs : cs = (flat l).toArray) : Got B (w.alloc (.cells cs t)) (.slice (some ⟨w.heap.size, 0, none⟩) l.length cap) l := by
  subst hcs
  have hc : ∀ j u, (flat l)[j]? = some u → (w.alloc (.cells (flat l).toArray t)).cell? ⟨w.heap.size, j, none⟩ = some u := by
    intro j u hu
    simp [go_sem, hu]
  refine ⟨w.heap.size, cap, rfl, hB, by simp, fun j x hj => ?_, fun i hi => ?_⟩
  · obtain ⟨f0, f1, f2⟩ := flat_at l j x hj
    rw [Nat.zero_add]
    exact ⟨hc _ _ f0, hc _ _ f1, hc _ _ f2⟩
  · have : i < (flat l).length := by rw [flat_len]; exact hi
    exact ⟨⟨_, hc i _ (List.getElem?_eq_getElem this)⟩, by simp [go_sem]⟩
theorem Got.base {B B' : Nat} {w : World} {v : Value} {l : List Tx.Ins} (h : Got B w v l) (hB : B' ≤ B) : Got B' w v l := by
  obtain ⟨g, cap, hv, h1, h2, h3, h4⟩ := h
  exact ⟨g, cap, hv, Nat.le_trans hB h1, h2, h3, h4⟩
end St
end Go.Proofs.YtinanjjhkddikaaGreat

/- Rows of methods that a call makes. -/
namespace Go.Proofs.YtinanjjhkddikaaGreat
namespace Pg
open Go.ChangeShapes Go.WideShapes Go.ChangeAt Go.RowKit St

theorem infoMM : (Tryz.prog.info? 55).map (fun i => (i.zero, i.size, i.bytes)) = some (some (.agg #[.int .i64 0, .slice none 0 0, .int .i64 0, .slice none 0 0]), 4, 64) := by kernel_rfl
/-- A row of methods that the call has made and that may grow. -/
def GrowM (B : Nat) (w : World) (v : Value) (l : List (Meth × Value × Value)) : Prop := w.ownsRow B 55 4 v l.length (flatM l) ∧ v ≠ .slice none 0 0
theorem GrowM.on {B : Nat} {u v : World} {x : Value} {l : List (Meth × Value × Value)} (h : GrowM B u x l) (hb : Below u.heap.size u v) : GrowM B v x l := ⟨ownOn h.1 hb, h.2⟩
theorem GrowM.base {B B' : Nat} {w : World} {v : Value} {l : List (Meth × Value × Value)} (h : GrowM B w v l) (hB : B' ≤ B) : GrowM B' w v l := ⟨ownBase h.1 hB, h.2⟩
theorem GrowM.form {B : Nat} {w : World} {v : Value} {l : List (Meth × Value × Value)} (h : GrowM B w v l) : ∃ g cap, v = .slice (some ⟨g, 0, none⟩) l.length cap ∧ B ≤ g ∧ g < w.heap.size := by
  obtain ⟨h, hv⟩ := h
  have hlt := @World.ownsRow.lt w B 55 4 v l.length (flatM l) h
  obtain ⟨_, ⟨h, _⟩ | ⟨g, cap, cur, rfl, hB, hblk, hcap, hmax, hsz, _⟩⟩ := h
  · exact absurd h hv
  · exact ⟨g, cap, rfl, hB, (hlt g rfl).2⟩
theorem growM_nil (w : World) : GrowM w.heap.size (w.alloc (.cells #[] 55)) (.slice (some ⟨w.heap.size, 0, none⟩) 0 0) [] := by
  refine ⟨?_, by simp⟩
  have h : (w.alloc (.cells #[] 55)).ownsRow w.heap.size 55 4 (.slice (some ⟨w.heap.size, 0, none⟩) 0 0) 0 [] := World.ownsRow_made w #[] 0 (Nat.le_refl _) (by decide) (by simp)
  exact h
theorem cell_four (w : World) (a b c d : Value) (t : TypeId) : ∀ (j : Nat) (u : Value), [a, b, c, d][j]? = some u → (w.alloc (.cells #[a, b, c, d] t)).cell? ((⟨w.heap.size, 0, none⟩ : Addr).add j) = some u := by
  intro j u hu
  rw [Go.WideShapes.add_plain, Nat.zero_add]
  have := (Cells.new w _ rfl [a, b, c, d] t) j u hu
  exact this.1
theorem GrowM.next {w : World} {B : Nat} {v : Value} {l : List (Meth × Value × Value)} {x : Meth × Value × Value} (h : w.ownsRow B 55 4 v (l.length + 1) (flatM l ++ [.int .i64 x.1.name, x.2.1, .int .i64 x.1.gives, x.2.2])) (hv : v ≠ .slice none 0 0) : GrowM B w v (l ++ [x]) := by
  refine ⟨?_, hv⟩
  rw [flatM_snoc, List.length_append]
  exact h
theorem GrowM.sm {B B' : Nat} {w : World} {v : Value} {l : List (Meth × Value × Value)} (h : GrowM B' w v l) (hB : B ≤ B') (hd : ∀ x ∈ l, MV front B w x.2.1 x.2.2 x.1) : SM front B w v (l.map (·.1)) := sm_of rfl hB (by rw [List.length_map]; exact h.1) hd
end Pg
end Go.Proofs.YtinanjjhkddikaaGreat

/- Contracts: the program's filter of methods, and its Doubles. -/
namespace Go.Proofs.YtinanjjhkddikaaGreat
namespace Pg
open Go.ChangeShapes Go.WideShapes Go.ChangeAt Go.RowKit St

theorem okMB_name {n : Int} {m : Meth} (h : okMB n m = true) : 0 ≤ m.name ∧ m.name ≤ 19 := by
  unfold okMB at h
  simp only [Bool.and_eq_true, decide_eq_true_eq] at h
  exact ⟨h.1.1.1.1.1, h.1.1.1.1.2⟩
theorem name_bd {p : Prg} (hok : okP p = true) {i : Nat} {c : Cls} (hc : p[i]? = some c) {m : Meth} (hm : m ∈ c.meths) : 0 ≤ m.name ∧ m.name ≤ 19 := by
  obtain ⟨hi, _⟩ := List.getElem?_eq_some_iff.1 hc
  have h1 := okP_at hok hi
  rw [okAt_of hc] at h1
  obtain ⟨k, hk, rfl⟩ := List.getElem_of_mem hm
  have h2 := okC_meth h1 hk
  unfold okK at h2
  rw [List.getElem?_eq_getElem hk] at h2
  simp only [Bool.and_eq_true] at h2
  exact okMB_name h2.1.1
theorem meths_few {p : Prg} (hok : okP p = true) {i : Nat} {c : Cls} (hc : p[i]? = some c) : c.meths.length ≤ 4 := by
  obtain ⟨hi, _⟩ := List.getElem?_eq_some_iff.1 hc
  have h1 := okP_at hok hi
  rw [okAt_of hc] at h1
  exact (okC_few h1).2
theorem dblC_len {p : Prg} (hok : okP p = true) {i : Nat} {c : Cls} (hc : p[i]? = some c) : (dblC p i c).length ≤ 4 := by
  unfold dblC
  rw [List.length_map]
  exact Nat.le_trans (List.length_filter_le _ _) (meths_few hok hc)
/-- The numbers of the doubles of the first n classes. -/
def dblT (p : Prg) (n : Nat) : List Int := ((List.range n).map fun i => match p[i]? with | none => [] | some c => dblC p i c).flatten
theorem dblT_succ {p : Prg} {n : Nat} {c : Cls} (hc : p[n]? = some c) : dblT p (n + 1) = dblT p n ++ dblC p n c := by
  unfold dblT
  rw [List.range_succ, List.map_append, List.flatten_append]
  simp [hc]
theorem dblT_len {p : Prg} (hok : okP p = true) : ∀ n, n ≤ p.length → (dblT p n).length ≤ 4 * n
  | 0, _ => by simp [dblT]
  | n + 1, h => by
    rw [dblT_succ (List.getElem?_eq_getElem (show n < p.length by omega)), List.length_append]
    have h1 := dblT_len hok n (by omega)
    have h2 := dblC_len hok (List.getElem?_eq_getElem (show n < p.length by omega))
    omega
theorem dblL_yes {p : Prg} (hok : okP p = true) : dblL p = dblT p p.length := by unfold dblL; rw [if_pos hok]; rfl
theorem dblL_no {p : Prg} (hok : okP p = false) : dblL p = [] := by unfold dblL; rw [hok]; rfl
theorem dblL_len (p : Prg) : (dblL p).length ≤ 24 := by
  cases hok : okP p
  · rw [dblL_no hok]; simp
  · rw [dblL_yes hok]
    have := dblT_len hok p.length (Nat.le_refl _)
    have := (okP_len hok).2
    omega

end Pg
end Go.Proofs.YtinanjjhkddikaaGreat

/- Contracts of the other side's Double. -/
namespace Go.Proofs.YtinanjjhkddikaaGreat
namespace Pg
open Go.ChangeShapes Go.WideShapes Go.ChangeAt Go.RowKit St

end Pg
end Go.Proofs.YtinanjjhkddikaaGreat

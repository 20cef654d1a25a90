/- Rows of what is known, in memory. -/
import Derived.Test.YthabenjodhjgiaaKp0
import Derived.Test.YthabenjodhjgiaaGr0
namespace Go.Proofs.Ythabenjodhjgiaa
namespace Pg
open Go.ChangeShapes Go.WideShapes Go.ChangeAt Go.RowKit St Wd

def rowL (K : Kw) (i : Nat) : List Int := (List.range 8).map fun j => (K i j).getD 0
theorem rowL_len (K : Kw) (i : Nat) : (rowL K i).length = 8 := by simp [rowL]
theorem rowL_at (K : Kw) (i : Nat) {j : Nat} (hj : j < 8) : (rowL K i)[j]? = some ((K i j).getD 0) := by simp [rowL, hj]
def slcK (K : Kw) (f cp : Nat → Nat) (i : Nat) : Value := if K i 0 = none then .slice none 0 0 else .slice (some ⟨f i, 0, none⟩) 8 (cp i)
def cellsG (K : Kw) (f cp : Nat → Nat) (n : Nat) : List Value := (List.range n).map fun i => slcK K f cp i
theorem cellsG_at (K : Kw) (f cp : Nat → Nat) {n i : Nat} (hi : i < n) : (cellsG K f cp n)[i]? = some (slcK K f cp i) := by simp [cellsG, hi]
/-- The rows lie in blocks of their own. -/
def RowsK (B : Nat) (w : World) (G n : Nat) (K : Kw) (f cp : Nat → Nat) : Prop :=
  Cells w G (cellsG K f cp n) ∧ G < w.heap.size ∧ (∀ i, i < n → K i 0 ≠ none → B ≤ f i ∧ f i < w.heap.size ∧ f i ≠ G ∧ Cells w (f i) (nums (rowL K i))) ∧
    ∀ i i', i < n → i' < n → K i 0 ≠ none → K i' 0 ≠ none → f i = f i' → i = i'
theorem RowsK.on {B : Nat} {u w : World} {G n : Nat} {K : Kw} {f cp : Nat → Nat} (h : RowsK B u G n K f cp) (hb : Below u.heap.size u w) : RowsK B w G n K f cp := by
  obtain ⟨h1, h3, h4, h5⟩ := h
  refine ⟨h1.on hb, Nat.lt_of_lt_of_le h3 hb.size, fun i hi hk => ?_, h5⟩
  obtain ⟨g1, g2, g3, g4⟩ := h4 i hi hk
  exact ⟨g1, Nat.lt_of_lt_of_le g2 hb.size, g3, g4.on hb⟩
/-- One word of one row is written anew. -/
theorem RowsK.setEl {B : Nat} {w : World} {G n : Nat} {K : Kw} {f cp : Nat → Nat} (h : RowsK B w G n K f cp) {t j : Nat} (ht : t < n) (hr : K t 0 ≠ none) (hj : j < 8) (hj0 : K t j ≠ none) (x : Int) :
    RowsK B (w.setCell ⟨f t, j, none⟩ (.int .i64 x)) G n (setK K t j x) f cp := by
  obtain ⟨h1, h3, h4, h5⟩ := h
  obtain ⟨g1, g2, g3, g4⟩ := h4 t ht hr
  have hn : ∀ i, (setK K t j x i 0 = none) ↔ (K i 0 = none) := fun i => by
    unfold setK
    split
    · rename_i e; obtain ⟨rfl, rfl⟩ := e; simp [hr]
    · rfl
  have hc : cellsG (setK K t j x) f cp n = cellsG K f cp n := by
    unfold cellsG slcK
    exact List.map_congr_left fun i _ => by simp only [hn]
  refine ⟨?_, by simpa using h3, fun i hi hk => ?_, fun i i' hi hi' hk hk' => h5 i i' hi hi' (fun e => hk ((hn i).2 e)) (fun e => hk' ((hn i').2 e))⟩
  · rw [hc]
    exact h1.far _ _ (by simpa using g3)
  · have hk' : K i 0 ≠ none := fun e => hk ((hn i).2 e)
    obtain ⟨q1, q2, q3, q4⟩ := h4 i hi hk'
    refine ⟨q1, by simpa using q2, q3, ?_⟩
    by_cases e : i = t
    · subst e
      have := g4.set j (.int .i64 x)
      have he : (nums (rowL K i)).set j (.int .i64 x) = nums (rowL (setK K i j x) i) := by
        apply List.ext_getElem?
        intro p
        rw [List.getElem?_set]
        simp only [nums, List.length_map, rowL_len, List.getElem?_map]
        by_cases hp : p < 8
        · rw [rowL_at _ _ hp, rowL_at _ _ hp]
          by_cases e2 : j = p
          · subst e2; simp [setK, hp]
          · have : ¬ p = j := fun h => e2 h.symm
            simp [setK, this, e2]
        · have h1 : (rowL K i)[p]? = none := List.getElem?_eq_none (by rw [rowL_len]; omega)
          have h2 : (rowL (setK K i j x) i)[p]? = none := List.getElem?_eq_none (by rw [rowL_len]; omega)
          have h3 : ¬ j = p := by omega
          simp [h1, h2, h3]
      rw [← he]
      exact this
    · have he : rowL (setK K t j x) i = rowL K i := by
        unfold rowL setK
        exact List.map_congr_left fun p _ => by simp [e]
      rw [he]
      exact q4.far _ _ (by simpa using fun h => e (h5 i t hi ht hk' hr h.symm))
/-- A new row is put where there was none. -/
theorem RowsK.setRow {B : Nat} {w : World} {G n : Nat} {K : Kw} {f cp : Nat → Nat} (h : RowsK B w G n K f cp) {t : Nat} (ht : t < n) (hr : K t 0 = none) (g c : Nat) (hB : B ≤ g) (hg : g < w.heap.size) (hgG : g ≠ G) (hgf : ∀ i, i < n → K i 0 ≠ none → f i ≠ g)
    (K' : Kw) (hK1 : ∀ a b, a ≠ t → K' a b = K a b) (hK2 : K' t 0 ≠ none) (hc : Cells w g (nums (rowL K' t))) :
    RowsK B (w.setCell ⟨G, t, none⟩ (.slice (some ⟨g, 0, none⟩) 8 c)) G n K' (fun a => if a = t then g else f a) (fun a => if a = t then c else cp a) := by
  obtain ⟨h1, h3, h4, h5⟩ := h
  have hn : ∀ i, i ≠ t → (K' i 0 ≠ none → K i 0 ≠ none) := fun i hi => by rw [hK1 i 0 hi]; exact id
  refine ⟨?_, by simpa using h3, fun i hi hk => ?_, fun i i' hi hi' hk hk' e => ?_⟩
  · have := h1.set t (.slice (some ⟨g, 0, none⟩) 8 c)
    have he : (cellsG K f cp n).set t (.slice (some ⟨g, 0, none⟩) 8 c) = cellsG K' (fun a => if a = t then g else f a) (fun a => if a = t then c else cp a) n := by
      apply List.ext_getElem?
      intro p
      rw [List.getElem?_set]
      by_cases hp : p < n
      · by_cases e : t = p
        · subst e
          have : (cellsG K f cp n).length = n := by simp [cellsG]
          rw [if_pos rfl, this, if_pos hp, cellsG_at _ _ _ hp]
          simp [slcK, hK2]
        · rw [if_neg e, cellsG_at _ _ _ hp, cellsG_at _ _ _ hp]
          have e' : ¬ p = t := fun h => e h.symm
          simp [slcK, hK1 p 0 e', e']
      · have l1 : (cellsG K f cp n).length = n := by simp [cellsG]
        have a1 : (cellsG K f cp n)[p]? = none := List.getElem?_eq_none (by rw [l1]; omega)
        have a2 : (cellsG K' (fun a => if a = t then g else f a) (fun a => if a = t then c else cp a) n)[p]? = none := List.getElem?_eq_none (by simp [cellsG]; omega)
        have e : ¬ t = p := by omega
        rw [a1, a2, if_neg e]
    rw [← he]
    exact this
  · by_cases e : i = t
    · subst e
      simp only [if_true]
      exact ⟨hB, by simpa using hg, hgG, hc.far _ _ (by simpa using fun h => hgG h.symm)⟩
    · simp only [if_neg e]
      obtain ⟨q1, q2, q3, q4⟩ := h4 i hi (hn i e hk)
      refine ⟨q1, by simpa using q2, q3, ?_⟩
      have he : rowL K' i = rowL K i := by unfold rowL; exact List.map_congr_left fun p _ => by rw [hK1 i p e]
      rw [he]
      exact q4.far _ _ (by simpa using fun h => q3 h.symm)
  · dsimp only at e
    by_cases e1 : i = t
    · by_cases e2 : i' = t
      · rw [e1, e2]
      · rw [if_pos e1, if_neg e2] at e
        exact absurd e.symm (hgf i' hi' (hn i' e2 hk'))
    · by_cases e2 : i' = t
      · rw [if_neg e1, if_pos e2] at e
        exact absurd e (hgf i hi (hn i e1 hk))
      · rw [if_neg e1, if_neg e2] at e
        exact h5 i i' hi hi' (hn i e1 hk) (hn i' e2 hk') e
theorem cells_of_gint {w : World} {g : Nat} {l : List Int} (hi : IRow w g 0 l) (hr : Room w g l.length) : Cells w g (nums l) := fun i x hx => by
  unfold nums at hx
  rw [List.getElem?_map] at hx
  cases e : l[i]? with
  | none => rw [e] at hx; simp at hx
  | some v =>
    rw [e] at hx
    simp at hx
    subst hx
    have h1 := hi i v e
    rw [Nat.zero_add] at h1
    exact ⟨h1, (hr i (List.getElem?_eq_some_iff.1 e).1).2⟩
set_option maxRecDepth 100000 in
set_option maxHeartbeats 1000000 in
theorem l10All_at (w : World) : Calls Try.prog 56 #[] w fun e w' => ∃ v, e = .returned v ∧ Grow w.heap.size w' v (List.replicate 8 UnK) ∧ Below w.heap.size w w' := by
  have H0 : Hid (Grow w.heap.size (w.alloc (.cells #[] 2)) (.slice (some ⟨w.heap.size, 0, none⟩) 0 0) []) := grow_start w
  obtain ⟨i0, hif, hz0, hz1, hz2⟩ := info_parts infoN
  go_enter Try.func56, Try.ntmps56
  go_wp2
  go_loopw [2, 1] (fun i v wr => ∃ k : Nat, k ≤ 8 ∧ i = .int .i64 (k : Int) ∧ Hid (Grow w.heap.size wr v (List.replicate k UnK)) ∧ Below w.heap.size w wr) (fun i _ _ => 8 - (intOf i).toNat)
  case atStart => exact ⟨0, by omega, rfl, H0.out, (Below.refl _ _).alloc (Nat.le_refl _) _⟩
  case round =>
    obtain ⟨k, hk, rfl, hg, hb⟩ := hrel
    by_cases hlt : k < 8
    · have hki : (k : Int) < 8 := by omega
      obtain ⟨gq, cq, hv, _⟩ := hg.out.gint
      rw [List.length_replicate] at hv
      subst hv
      have HG1 : Hid ((wr.alloc (.cells #[.int .i64 1099511627776] 2)).ownsRow w.heap.size 2 1 (.slice (some ⟨gq, 0, none⟩) k cq) k (nums (List.replicate k UnK))) := by
        have := hg.out.1.alloc (.cells #[.int .i64 1099511627776] 2)
        rw [List.length_replicate] at this
        exact this
      have hbs := hb.size
      go_wp2_with (at_builtin; refine wpList_append_own _ rfl _ _ 37 rfl w.heap.size 2 i0 (.int .i64 0) 1 8 Try.underlying37 hif hz0 hz1 hz2 rfl (by decide) _ _ _ rfl HG1.out ⟨wr.heap.size, 0, none⟩ 1 1 [.int .i64 1099511627776] rfl rfl (cell_one_new _ _ _) (by simp [Value.oneCell']) (by unfold maxLen; omega) (by omega) (by simp; omega) ?_; intro v' w2 hown hgrow hnil)
      have HG2 : Hid (Grow w.heap.size w2 v' (List.replicate (k + 1) UnK)) := by
        refine ⟨?_, fun e => by simp [e] at hnil⟩
        have e1 : nums (List.replicate (k + 1) UnK) = nums (List.replicate k UnK) ++ [.int .i64 1099511627776] := by
          rw [List.replicate_succ']; simp [nums]
        rw [List.length_replicate, e1]
        exact hown
      have hb2 : Below w.heap.size w w2 := (hb.alloc hb.size _).grown hgrow (by simp; omega) (fun q hq => (HG1.out.lt q hq).1)
      clear hown hgrow hnil HG1
      go_wp2
      go_roundw
      case rel => exact ⟨k + 1, by omega, by go_num, HG2.out, hb2⟩
      case measure => simp [intOf]; omega
    · obtain rfl : k = 8 := by omega
      go_wp2
      go_ret
      exact ⟨_, rfl, hg.out, hb⟩
end Pg
end Go.Proofs.Ythabenjodhjgiaa

/- Contracts of the laws' own functions on rows of steps. -/
import Derived.Test.YtbachkjhmenhfaaRow0
import Derived.Deep.RegionWith
import Derived.Lib.QuietBelow
namespace Go.Proofs.Ytbachkjhmenhfaa
namespace St
open Go.ChangeShapes Go.WideShapes Go.ChangeAt Go.RowKit

/-- The first n cells of block g are there and may be written. -/
def Room (w : World) (g n : Nat) : Prop := ∀ i, i < n → (∃ v, w.cell? ⟨g, i, none⟩ = some v) ∧ w.frozen? ⟨g, i, none⟩ = false
theorem Room.on {u v : World} {g n : Nat} (h : Room u g n) (hb : Below u.heap.size u v) : Room v g n := by
  intro i hi
  obtain ⟨⟨x, hx⟩, hf⟩ := h i hi
  have l : g < u.heap.size := cell_lt hx
  exact ⟨⟨x, (hb.cell l).trans hx⟩, (hb.frozen l).trans hf⟩
theorem Room.set {w : World} {g n : Nat} (h : Room w g n) (p : Addr) (v : Value) : Room (w.setCell p v) g n := by
  intro i hi
  obtain ⟨⟨x, hx⟩, hf⟩ := h i hi
  refine ⟨?_, by simpa using hf⟩
  by_cases e : p = ⟨g, i, none⟩
  · subst e; exact ⟨v, World.cell?_setCell_same _ _ _ hx⟩
  · exact ⟨x, (World.cell?_setCell_other _ _ _ _ e).trans hx⟩
theorem room_own {w : World} {B e n g cap q : Nat} {xs : List Value} (h : w.ownsRow B e q (.slice (some ⟨g, 0, none⟩) n cap) n xs) (hn : n ≤ cap) : Room w g (n * q) := by
  intro i hi
  obtain ⟨_, h | ⟨g', cap', cur, hv, _, hblk, _, _, hsz, _⟩⟩ := h
  · simp at h
  · injection hv with h1 h2 h3
    simp at h1
    subst h1 h3
    have hc : i < cur.size := by rw [hsz]; exact Nat.lt_of_lt_of_le hi (Nat.mul_le_mul_right _ hn)
    refine ⟨⟨cur[i], ?_⟩, ?_⟩
    · simp [World.cell?, hblk, hc]
    · simp [World.frozen?, hblk]

theorem row_made_lt {w : World} {B e n g cap q : Nat} {xs : List Value} (h : w.ownsRow B e q (.slice (some ⟨g, 0, none⟩) n cap) n xs) : g < w.heap.size := by
  obtain ⟨_, h | ⟨g', cap', cur, hv, _, hblk, _⟩⟩ := h
  · simp at h
  · injection hv with h1 h2 h3
    simp at h1
    subst h1
    rcases Nat.lt_or_ge g w.heap.size with h | h
    · exact h
    · rw [Array.getElem?_eq_none h] at hblk
      simp at hblk

/-- Three cells written: what the row then holds. -/
theorem row_next {w : World} {g k : Nat} {l : List Tx.Ins} (hk : k < l.length) (hroom : Room w g (l.length * 3)) (hr : Row w g 0 (l.take k)) :
    Row (((w.setCell ⟨g, k * 3, none⟩ (.int .i64 l[k].1)).setCell ⟨g, k * 3 + 1, none⟩ (.int .i64 l[k].2.1)).setCell ⟨g, k * 3 + 2, none⟩ (.int .i64 l[k].2.2)) g 0 (l.take (k + 1)) := by
  have ne : ∀ a b : Nat, a ≠ b → (⟨g, a, none⟩ : Addr) ≠ ⟨g, b, none⟩ := fun a b h e => h (congrArg Addr.off e)
  have far : ∀ i, i < k * 3 → ∀ u, w.cell? ⟨g, i, none⟩ = some u → (((w.setCell ⟨g, k * 3, none⟩ (.int .i64 l[k].1)).setCell ⟨g, k * 3 + 1, none⟩ (.int .i64 l[k].2.1)).setCell ⟨g, k * 3 + 2, none⟩ (.int .i64 l[k].2.2)).cell? ⟨g, i, none⟩ = some u := by
    intro i hi u hu
    rw [World.cell?_setCell_other _ _ _ _ (ne _ _ (by omega)), World.cell?_setCell_other _ _ _ _ (ne _ _ (by omega)), World.cell?_setCell_other _ _ _ _ (ne _ _ (by omega))]
    exact hu
  obtain ⟨⟨x0, h0⟩, _⟩ := hroom (k * 3) (by omega)
  obtain ⟨⟨x1, h1⟩, _⟩ := hroom (k * 3 + 1) (by omega)
  obtain ⟨⟨x2, h2⟩, _⟩ := hroom (k * 3 + 2) (by omega)
  intro j x hj
  rw [List.getElem?_take] at hj
  split at hj
  · rename_i hjk
    by_cases e : j = k
    · subst e
      rw [List.getElem?_eq_getElem hk] at hj
      injection hj with hj
      subst hj
      rw [Nat.zero_add]
      refine ⟨?_, ?_, ?_⟩
      · rw [World.cell?_setCell_other _ _ _ _ (ne _ _ (by omega)), World.cell?_setCell_other _ _ _ _ (ne _ _ (by omega))]
        exact World.cell?_setCell_same _ _ _ h0
      · rw [World.cell?_setCell_other _ _ _ _ (ne _ _ (by omega))]
        exact World.cell?_setCell_same _ _ _ ((World.cell?_setCell_other _ _ _ _ (ne _ _ (by omega))).trans h1)
      · exact World.cell?_setCell_same _ _ _ ((World.cell?_setCell_other _ _ _ _ (ne _ _ (by omega))).trans ((World.cell?_setCell_other _ _ _ _ (ne _ _ (by omega))).trans h2))
    · have hjt : (l.take k)[j]? = some x := by rw [List.getElem?_take, if_pos (by omega)]; exact hj
      obtain ⟨a0, a1, a2⟩ := hr j x hjt
      rw [Nat.zero_add] at a0 a1 a2 ⊢
      exact ⟨far _ (by omega) _ a0, far _ (by omega) _ a1, far _ (by omega) _ a2⟩
  · simp at hj

end St
end Go.Proofs.Ytbachkjhmenhfaa

/- What stays of rows that a call made; the laws' own marking and holding of rows of numbers that may be nil. -/
import Derived.Test.YtbfiijfaaknhaaaPc0
import Derived.Test.YtbfiijfaaknhaaaPm0
namespace Go.Proofs.Ytbfiijfaaknhaaa
namespace Pg
open Go.ChangeShapes Go.WideShapes Go.ChangeAt Go.RowKit St

theorem GZ.mrk {C1 C2 B1 B2 : Nat} {u w : World} {v : Value} {l : List Int} (h : GZ B1 B2 u v l) (hm : Mrk C1 C2 u w) (hd : B2 ≤ C1 ∨ C2 ≤ B1) : GZ B1 B2 w v l := h.moved hm.size fun k h1 h2 hl => hm.far k hl (by omega)
theorem CZ.mrk {C1 C2 B1 B2 : Nat} {u w : World} {v : Value} {l : List Tx.Ins} (h : CZ B1 B2 u v l) (hm : Mrk C1 C2 u w) (hd : B2 ≤ C1 ∨ C2 ≤ B1) : CZ B1 B2 w v l := h.moved hm.size fun k h1 h2 hl => hm.far k hl (by omega)
theorem GZ.only {g B1 B2 : Nat} {u w : World} {v : Value} {l : List Int} (h : GZ B1 B2 u v l) (ho : Only g u w) (hd : g < B1 ∨ B2 ≤ g) : GZ B1 B2 w v l := h.moved (by rw [ho.size]; exact Nat.le_refl _) fun k h1 h2 _ => ho.block k (by omega)
theorem CZ.only {g B1 B2 : Nat} {u w : World} {v : Value} {l : List Tx.Ins} (h : CZ B1 B2 u v l) (ho : Only g u w) (hd : g < B1 ∨ B2 ≤ g) : CZ B1 B2 w v l := h.moved (by rw [ho.size]; exact Nat.le_refl _) fun k h1 h2 _ => ho.block k (by omega)

theorem Cells.keep {D : Nat} {u w : World} {k : Nat} {vs : List Value} (h : Cells u k vs) (hk : Keep D u w) (hD : D ≤ k) : Cells w k vs := fun i x hx => by
  obtain ⟨h1, h2⟩ := h i x hx
  have l := cell_lt h1
  exact ⟨(hk.cell (p := ⟨k, i, none⟩) hD l).trans h1, (hk.frozen (p := ⟨k, i, none⟩) hD l).trans h2⟩
theorem Cells.mrk {C1 C2 : Nat} {u w : World} {k : Nat} {vs : List Value} (h : Cells u k vs) (hm : Mrk C1 C2 u w) (hd : k < C1 ∨ C2 ≤ k) : Cells w k vs := fun i x hx => by
  obtain ⟨h1, h2⟩ := h i x hx
  have l := cell_lt h1
  have hb := hm.far k l hd
  exact ⟨(World.cell?_of_block (w := u) hb).trans h1, (World.frozen?_of_block (w := u) hb).trans h2⟩
theorem below_less {B C : Nat} {u w : World} (h : Below B u w) (hC : C ≤ B) : Below C u w := ⟨h.os, h.tape, h.output, h.size, fun k hk => h.block k (by omega)⟩

/-- The marks m, m + 1 .. of n steps. -/
def marksM (m n : Nat) : List Tx.Ins := (List.range n).map fun (j : Nat) => (((m : Int) + 3 * (j : Int), (m : Int) + 3 * (j : Int) + 1, (m : Int) + 3 * (j : Int) + 1 + 1) : Tx.Ins)
theorem marksM_len (m n : Nat) : (marksM m n).length = n := by simp [marksM]
theorem marksM_at {m n k : Nat} (h : k < n) : (marksM m n)[k]? = some ((m : Int) + 3 * (k : Int), (m : Int) + 3 * (k : Int) + 1, (m : Int) + 3 * (k : Int) + 1 + 1) := by simp [marksM, h]
set_option maxHeartbeats 400000 in
theorem heldI_nil (m : Nat) (w : World) : Calls Try.prog 22 #[.slice none 0 0, .int .i64 m] w fun e w' => e = .returned (.int .i64 (m : Int)) ∧ w = w' := by
  go_enter Try.func22, Try.ntmps22
  go_wp2
  go_loop [1, 5] (fun q i => i = .int .i64 0 ∧ q = .int .i64 (m : Int)) (fun _ _ => 0)
  case atStart => exact ⟨rfl, rfl⟩
  case round =>
    obtain ⟨rfl, rfl⟩ := hrel
    go_wp2
    go_ret
    exact ⟨rfl, rfl⟩
/-- The marks in a method that a call has made. -/
theorem markIntsZ (B M m : Nat) (a : Option Addr) (c : Nat) (l : List Int) (hl : l.length ≤ 1048576) (hm : m + l.length ≤ 4000000) (w : World) (hB : B ≤ w.heap.size) (h : GZ B M w (.slice a l.length c) l) :
    Calls Try.prog 21 #[.slice a l.length c, .int .i64 m] w fun e w' => e = .returned (.int .i64 ((m + l.length : Nat) : Int)) ∧ GZ B M w' (.slice a l.length c) (imarks m l.length) ∧ Below B w w' ∧ Keep M w w' := by
  rcases h with ⟨g, d, hv, h1, h2, h3, h4, h5⟩ | ⟨hv, rfl⟩
  · rw [hv]
    refine (imark_at g d m l.length (by omega) hl w h5).mono ?_
    rintro e w' ⟨rfl, k1, k2, k3⟩
    refine ⟨by push_cast; rfl, .inl ⟨g, d, by rw [imarks_len], h1, h2, by rw [k3.size]; exact h3, k1, by rw [imarks_len]; exact k2⟩, k3.below h1, ⟨by rw [k3.size]; exact Nat.le_refl _, fun k hk _ => k3.block k (by omega)⟩⟩
  · rw [hv]
    have hs : ShN 1 w.heap.size w.heap.size w (.slice none 0 0) 0 := ⟨_, _, rfl, fun h => absurd h (by omega)⟩
    refine (markInts' w.heap.size w.heap.size none 0 m 0 (by omega) w hs).mono ?_
    rintro e w' ⟨rfl, hk⟩
    have hb : Below w.heap.size w w' := hk.below (Nat.le_refl _) (Nat.le_refl _)
    exact ⟨rfl, .inr ⟨rfl, rfl⟩, ⟨hb.os, hb.tape, hb.output, hb.size, fun k hk' => hb.block k (by omega)⟩, Keep.of hb⟩

theorem heldIntsZ (B M m n : Nat) (a : Option Addr) (c : Nat) (hn : n ≤ 1048576) (hm : m ≤ 4000000) (w : World) (h : GZ B M w (.slice a n c) (imarks m n)) :
    Calls Try.prog 22 #[.slice a n c, .int .i64 m] w fun e w' => e = .returned (.int .i64 ((m + n : Nat) : Int)) ∧ w = w' := by
  rcases h with ⟨g, d, hv, h1, h2, h3, h4, h5⟩ | ⟨hv, hl⟩
  · rw [imarks_len] at hv
    rw [hv]
    refine (iheld_at g d m n hm hn w h4).mono ?_
    rintro e w' ⟨rfl, rfl⟩
    exact ⟨by push_cast; rfl, rfl⟩
  · have hn0 : n = 0 := by have := imarks_len m n; rw [hl] at this; simpa using this.symm
    subst hn0
    rw [hv]
    exact heldI_nil m w
end Pg
end Go.Proofs.Ytbfiijfaaknhaaa

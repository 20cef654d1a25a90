/- Rows and states that calls have made. -/
import Derived.Test.YtkcbbpfclfncpaaDoorCk2
import Derived.Test.YtkcbbpfclfncpaaDoorPc0
import Derived.Maps.AppendAt
namespace Go.Proofs.YtkcbbpfclfncpaaDoor
namespace Pg
open Go.ChangeShapes Go.WideShapes Go.ChangeAt Go.RowKit St

/-- A state that a call has made: both rows, apart. -/
def AnsS (B : Nat) (w : World) (sv lv : Value) (s : Sta) : Prop := GZ B w.heap.size w sv s.1 ∧ GInt B w lv s.2 ∧ (sv.ownBlock = none ∨ sv.ownBlock ≠ lv.ownBlock)
theorem AnsS.keep {B C : Nat} {u w : World} {sv lv : Value} {s : Sta} (h : AnsS B u sv lv s) (hk : Keep C u w) (hC : C ≤ B) : AnsS B w sv lv s :=
  ⟨(h.1.keep hk hC).weak (Nat.le_refl _) hk.size, h.2.1.on (hk.mono hC), h.2.2⟩
theorem AnsS.on {B : Nat} {u w : World} {sv lv : Value} {s : Sta} (h : AnsS B u sv lv s) (hb : Below u.heap.size u w) : AnsS B w sv lv s := h.keep (Keep.of (B := 0) hb) (Nat.zero_le _)
theorem AnsS.base {B B' : Nat} {w : World} {sv lv : Value} {s : Sta} (h : AnsS B w sv lv s) (hB : B' ≤ B) : AnsS B' w sv lv s := by
  refine ⟨h.1.weak hB (Nat.le_refl _), ?_, h.2.2⟩
  obtain ⟨g, c, h1, h2, h3⟩ := h.2.1
  exact ⟨g, c, h1, Nat.le_trans hB h2, h3⟩
theorem AnsS.form {B : Nat} {w : World} {sv lv : Value} {s : Sta} (h : AnsS B w sv lv s) : ∃ x1 y1 x2 y2, sv = .slice x1 s.1.length y1 ∧ lv = .slice x2 s.2.length y2 := by
  obtain ⟨x1, y1, h1⟩ := h.1.form
  obtain ⟨g, c, h2, _⟩ := h.2.1
  exact ⟨x1, y1, _, c, h1, h2⟩
theorem AnsS.si {B : Nat} {w : World} {sv lv : Value} {s : Sta} (h : AnsS B w sv lv s) : SI true B w sv s.1 ∧ SI true B w lv s.2 := ⟨h.1.si, h.2.1.si⟩
/-- What a function that answers a state, and whether, answers. -/
def StPost (o : Option Sta) (w : World) (e : Ending) (w' : World) : Prop :=
  ((∃ t x1 y1 x2 y2, o = some t ∧ e = .returned (.tuple #[.agg #[.slice x1 t.1.length y1, .slice x2 t.2.length y2], .bool true]) ∧ AnsS w.heap.size w' (.slice x1 t.1.length y1) (.slice x2 t.2.length y2) t) ∨
   (o = none ∧ e = .returned (.tuple #[.agg #[.slice none 0 0, .slice none 0 0], .bool false]))) ∧ Below w.heap.size w w'
theorem grown_cell (w : World) (p : Addr) (v : Value) : w.grownBy (w.setCell p v) (some p.block) := by
  have h := (Below.refl 0 w).setCell (p := p) (Nat.zero_le _) v
  exact ⟨h.os, h.tape, h.output, h.size, fun k _ hne => Below.heap_setCell w p v k (fun e => hne (by rw [e]))⟩
theorem irow_blk {w w' : World} {g o : Nat} {l : List Int} (h : IRow w g o l) (hb : w'.heap[g]? = w.heap[g]?) : IRow w' g o l := fun j x hj => (World.cell?_of_block (a := ⟨g, o + j, none⟩) hb).trans (h j x hj)
/-- A new row, read. -/
theorem irow_new (w : World) (l : List Int) : IRow (w.alloc (.cells (nums l).toArray 2)) w.heap.size 0 l := fun j x hj => by
  have : (nums l)[j]? = some (.int .i64 x) := by simp [nums, hj]
  rw [Nat.zero_add]
  simp [go_sem, this]
theorem irow_newAt (w : World) (z : Nat) (l : List Int) (hz : z = w.heap.size) : IRow (w.alloc (.cells (nums l).toArray 2)) z 0 l := by rw [hz]; exact irow_new w l
theorem cells_blk {w w' : World} {k : Nat} {vs : List Value} (h : Cells w k vs) (hb : w'.heap[k]? = w.heap[k]?) : Cells w' k vs := fun i x hx =>
  ⟨(World.cell?_of_block (a := ⟨k, i, none⟩) hb).trans (h i x hx).1, (World.frozen?_of_block (a := ⟨k, i, none⟩) hb).trans (h i x hx).2⟩
theorem room_lt {w : World} {g n : Nat} (h : Room w g n) (hn : 0 < n) : g < w.heap.size := by
  obtain ⟨⟨v, hv⟩, _⟩ := h 0 hn
  exact cell_lt hv
theorem own_off {w w' : World} {B : Nat} {t : TypeId} {q : Nat} {v : Value} {n : Nat} {xs : List Value} {row : Option Nat} (h : w.ownsRow B t q v n xs) (hg : w.grownBy w' row) (hne : v.ownBlock ≠ row) : w'.ownsRow B t q v n xs := h.kept hg (.inr hne)
/-- The front of a row that is one's own is one's own. -/
theorem own_head {w : World} {B : Nat} {t : TypeId} {q : Nat} {a : Option Addr} {n cap : Nat} {xs : List Value} (h : w.ownsRow B t q (.slice a n cap) n xs) {m : Nat} (hm : m ≤ n) : w.ownsRow B t q (.slice a m cap) m (xs.take (m * q)) := by
  obtain ⟨h1, ⟨h2, h3⟩ | ⟨g, cap', cur, hv, hB, hb, hc, hx, hs, ht⟩⟩ := h
  · injection h2 with e1 e2 e3
    subst e1 e3
    have : m = 0 := by omega
    subst this
    exact ⟨by simp, .inl ⟨rfl, rfl⟩⟩
  · injection hv with e1 e2 e3
    subst e1 e3
    have hle : m * q ≤ n * q := Nat.mul_le_mul_right _ hm
    refine ⟨by rw [List.length_take, h1]; exact Nat.min_eq_left hle, .inr ⟨g, cap, cur, rfl, hB, hb, Nat.le_trans hm hc, hx, hs, ?_⟩⟩
    rw [← ht, List.take_take, Nat.min_eq_left hle]
theorem own_form {w : World} {B : Nat} {t : TypeId} {q : Nat} {v : Value} {n : Nat} {xs : List Value} (h : w.ownsRow B t q v n xs) : ∃ a cap, v = .slice a n cap ∧ n ≤ cap := by
  obtain ⟨_, ⟨rfl, rfl⟩ | ⟨g, cap, cur, rfl, _, _, hc, _⟩⟩ := h
  · exact ⟨_, _, rfl, Nat.le_refl _⟩
  · exact ⟨_, _, rfl, hc⟩
/-- A row that is one's own, read. -/
theorem own_read {w : World} {B : Nat} {v : Value} {n : Nat} {l : List Int} (h : w.ownsRow B 2 1 v n (nums l)) {j : Nat} {x : Int} (hj : l[j]? = some x) : ∃ g cap, v = .slice (some ⟨g, 0, none⟩) n cap ∧ w.cell? ⟨g, j, none⟩ = some (.int .i64 x) := by
  have hc := @World.ownsRow.cells w B 2 1 v n (nums l) h
  obtain ⟨h1, ⟨_, rfl⟩ | ⟨g, cap, cur, rfl, _⟩⟩ := h
  · simp [nums] at h1
    subst h1
    simp at hj
  · refine ⟨g, cap, rfl, ?_⟩
    have := hc (g := g) rfl j (.int .i64 x) (by simp [nums, hj])
    simpa [Go.WideShapes.add_plain] using this
theorem blk_lt {u w : World} {b : Nat} (hb : b < u.heap.size) (h : w.heap[b]? = u.heap[b]?) : b < w.heap.size := by
  rw [Array.getElem?_eq_getElem hb] at h
  exact (Array.getElem?_eq_some_iff.1 h).1
end Pg
end Go.Proofs.YtkcbbpfclfncpaaDoor

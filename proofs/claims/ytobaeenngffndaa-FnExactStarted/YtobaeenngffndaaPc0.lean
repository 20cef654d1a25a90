/- Contracts of both sides' copying of methods. -/
import Derived.Test.YtobaeenngffndaaPf0
import Derived.Test.YtobaeenngffndaaGot0
import Derived.Laws.AppendOwnNone
import Derived.Lib.SliceRun
namespace Go.Proofs.Ytobaeenngffndaa
namespace Pg
open Go.ChangeShapes Go.WideShapes Go.ChangeAt Go.RowKit St

theorem SI.nil (f : Bool) (B : Nat) (w : World) : SI f B w (.slice none 0 0) [] := ⟨none, 0, rfl, fun _ _ => rfl, fun h => by simp at h⟩
theorem Cells.low {u w : World} {k B : Nat} {vs : List Value} (h : Cells u k vs) (hb : Below B u w) (hk : k < B) : Cells w k vs := fun i x hx => by
  obtain ⟨h1, h2⟩ := h i x hx
  exact ⟨(hb.cell (p := ⟨k, i, none⟩) hk).trans h1, (hb.frozen (p := ⟨k, i, none⟩) hk).trans h2⟩
theorem grow_of {w : World} {B : Nat} {v : Value} {l : List Int} (h : w.ownsRow B 2 1 v l.length (nums l)) (hv : v ≠ .slice none 0 0) : Grow B w v l := ⟨h, hv⟩
theorem cs_of {w : World} {B : Nat} {v : Value} {l : List Tx.Ins} (h : w.ownsRow B 143 3 v l.length (flat l)) (hv : v ≠ .slice none 0 0) : CS B w v l := got_of h hv

/-- A row of numbers of its own, in a block from B1 on and below B2, or nil. -/
def GZ (B1 B2 : Nat) (w : World) (v : Value) (l : List Int) : Prop := (∃ g c, v = .slice (some ⟨g, 0, none⟩) l.length c ∧ B1 ≤ g ∧ g < B2 ∧ g < w.heap.size ∧ IRow w g 0 l ∧ Room w g l.length) ∨ (v = .slice none 0 0 ∧ l = [])
/-- A row of steps of its own, in a block from B1 on and below B2, or nil. -/
def CZ (B1 B2 : Nat) (w : World) (v : Value) (l : List Tx.Ins) : Prop := (∃ g c, v = .slice (some ⟨g, 0, none⟩) l.length c ∧ B1 ≤ g ∧ g < B2 ∧ g < w.heap.size ∧ Row w g 0 l ∧ Room w g (l.length * 3)) ∨ (v = .slice none 0 0 ∧ l = [])
theorem room_moved {u w : World} {g n : Nat} (hg : w.heap[g]? = u.heap[g]?) (h : Room u g n) : Room w g n := fun i hi => by
  obtain ⟨⟨x, hx⟩, hf⟩ := h i hi
  exact ⟨⟨x, (World.cell?_of_block (w := u) hg).trans hx⟩, (World.frozen?_of_block (w := u) hg).trans hf⟩
theorem GZ.moved {B1 B2 : Nat} {u w : World} {v : Value} {l : List Int} (h : GZ B1 B2 u v l) (hs : u.heap.size ≤ w.heap.size) (hb : ∀ k, B1 ≤ k → k < B2 → k < u.heap.size → w.heap[k]? = u.heap[k]?) : GZ B1 B2 w v l := by
  rcases h with ⟨g, c, hv, h1, h2, h3, h4, h5⟩ | h
  · have hg := hb g h1 h2 h3
    exact .inl ⟨g, c, hv, h1, h2, by omega, fun j x hj => (World.cell?_of_block (w := u) hg).trans (h4 j x hj), room_moved hg h5⟩
  · exact .inr h
theorem CZ.moved {B1 B2 : Nat} {u w : World} {v : Value} {l : List Tx.Ins} (h : CZ B1 B2 u v l) (hs : u.heap.size ≤ w.heap.size) (hb : ∀ k, B1 ≤ k → k < B2 → k < u.heap.size → w.heap[k]? = u.heap[k]?) : CZ B1 B2 w v l := by
  rcases h with ⟨g, c, hv, h1, h2, h3, h4, h5⟩ | h
  · have hg := hb g h1 h2 h3
    exact .inl ⟨g, c, hv, h1, h2, by omega, fun j x hj => by
      obtain ⟨c0, c1, c2⟩ := h4 j x hj
      exact ⟨(World.cell?_of_block (w := u) hg).trans c0, (World.cell?_of_block (w := u) hg).trans c1, (World.cell?_of_block (w := u) hg).trans c2⟩, room_moved hg h5⟩
  · exact .inr h
theorem GZ.keep {B B1 B2 : Nat} {u w : World} {v : Value} {l : List Int} (h : GZ B1 B2 u v l) (hk : Keep B u w) (hB : B ≤ B1) : GZ B1 B2 w v l := h.moved hk.size fun k h1 _ hl => hk.block k (by omega) hl
theorem CZ.keep {B B1 B2 : Nat} {u w : World} {v : Value} {l : List Tx.Ins} (h : CZ B1 B2 u v l) (hk : Keep B u w) (hB : B ≤ B1) : CZ B1 B2 w v l := h.moved hk.size fun k h1 _ hl => hk.block k (by omega) hl
theorem GZ.low {B B1 B2 : Nat} {u w : World} {v : Value} {l : List Int} (h : GZ B1 B2 u v l) (hk : Below B u w) (hB : B2 ≤ B) : GZ B1 B2 w v l := h.moved hk.size fun k _ h2 _ => hk.block k (by omega)
theorem CZ.low {B B1 B2 : Nat} {u w : World} {v : Value} {l : List Tx.Ins} (h : CZ B1 B2 u v l) (hk : Below B u w) (hB : B2 ≤ B) : CZ B1 B2 w v l := h.moved hk.size fun k _ h2 _ => hk.block k (by omega)
theorem GZ.on {B1 B2 : Nat} {u w : World} {v : Value} {l : List Int} (h : GZ B1 B2 u v l) (hk : Below u.heap.size u w) : GZ B1 B2 w v l := h.moved hk.size fun k _ _ h3 => hk.block k h3
theorem CZ.on {B1 B2 : Nat} {u w : World} {v : Value} {l : List Tx.Ins} (h : CZ B1 B2 u v l) (hk : Below u.heap.size u w) : CZ B1 B2 w v l := h.moved hk.size fun k _ _ h3 => hk.block k h3
theorem GZ.weak {B1 B2 C1 C2 : Nat} {w : World} {v : Value} {l : List Int} (h : GZ B1 B2 w v l) (h1 : C1 ≤ B1) (h2 : B2 ≤ C2) : GZ C1 C2 w v l := by
  rcases h with ⟨g, c, hv, k1, k2, h3, h4, h5⟩ | h
  · exact .inl ⟨g, c, hv, by omega, by omega, h3, h4, h5⟩
  · exact .inr h
theorem CZ.weak {B1 B2 C1 C2 : Nat} {w : World} {v : Value} {l : List Tx.Ins} (h : CZ B1 B2 w v l) (h1 : C1 ≤ B1) (h2 : B2 ≤ C2) : CZ C1 C2 w v l := by
  rcases h with ⟨g, c, hv, k1, k2, h3, h4, h5⟩ | h
  · exact .inl ⟨g, c, hv, by omega, by omega, h3, h4, h5⟩
  · exact .inr h
theorem GZ.form {B1 B2 : Nat} {w : World} {v : Value} {l : List Int} (h : GZ B1 B2 w v l) : ∃ a c, v = .slice a l.length c := by
  rcases h with ⟨g, c, hv, _⟩ | ⟨hv, hl⟩
  · exact ⟨_, _, hv⟩
  · subst hl; exact ⟨_, _, hv⟩
theorem CZ.form {B1 B2 : Nat} {w : World} {v : Value} {l : List Tx.Ins} (h : CZ B1 B2 w v l) : ∃ a c, v = .slice a l.length c := by
  rcases h with ⟨g, c, hv, _⟩ | ⟨hv, hl⟩
  · exact ⟨_, _, hv⟩
  · subst hl; exact ⟨_, _, hv⟩
theorem GZ.of {B : Nat} {w : World} {v : Value} {l : List Int} (h : GInt B w v l) : GZ B w.heap.size w v l := by
  obtain ⟨g, c, hv, h1, h2, h3, h4⟩ := h
  exact .inl ⟨g, c, hv, h1, h2, h2, h3, h4⟩
theorem CZ.of {B : Nat} {w : World} {v : Value} {l : List Tx.Ins} (h : CS B w v l) : CZ B w.heap.size w v l := by
  obtain ⟨g, c, hv, h1, h2, h3, h4⟩ := h
  exact .inl ⟨g, c, hv, h1, h2, h2, h3, h4⟩
theorem GZ.si {B1 B2 : Nat} {w : World} {v : Value} {l : List Int} (h : GZ B1 B2 w v l) : SI true B1 w v l := by
  rcases h with ⟨g, c, rfl, h1, _, h2, h3, h4⟩ | ⟨rfl, rfl⟩
  · exact SI.row h1 h2 h3 h4
  · exact SI.nil _ _ _
/-- A method that a call has made: its rows in blocks of their own. -/
def AnsM (B : Nat) (w : World) (va vc : Value) (m : Meth) : Prop := ∃ M, B ≤ M ∧ M ≤ w.heap.size ∧ GZ B M w va m.args ∧ CZ M w.heap.size w vc m.code

theorem AnsM.keep {B C : Nat} {u w : World} {va vc : Value} {m : Meth} (h : AnsM B u va vc m) (hk : Keep C u w) (hB : C ≤ B) : AnsM B w va vc m := by
  obtain ⟨M, h1, h2, h3, h4⟩ := h
  exact ⟨M, h1, Nat.le_trans h2 hk.size, h3.keep hk hB, (h4.keep hk (Nat.le_trans hB h1)).weak (Nat.le_refl _) hk.size⟩
theorem AnsM.weak {B C : Nat} {w : World} {va vc : Value} {m : Meth} (h : AnsM B w va vc m) (hB : C ≤ B) : AnsM C w va vc m := by
  obtain ⟨M, h1, h2, h3, h4⟩ := h
  exact ⟨M, Nat.le_trans hB h1, h2, h3.weak hB (Nat.le_refl _), h4⟩

end Pg
end Go.Proofs.Ytobaeenngffndaa

/- What stays of rows that a call made; the laws' own marking and holding of rows of numbers that may be nil. -/
import Derived.Test.YtffkkhaiedhaiaaJPm0
import Derived.Test.YtffkkhaiedhaiaaJPf0
namespace Go.Proofs.Ytffkkhaiedhaiaa
namespace Pg
open Go.ChangeShapes Go.WideShapes Go.ChangeAt Go.RowKit St

theorem GZ.mrk {C1 C2 B1 B2 : Nat} {u w : World} {v : Value} {l : List Int} (h : GZ B1 B2 u v l) (hm : Mrk C1 C2 u w) (hd : B2 ≤ C1 ∨ C2 ≤ B1) : GZ B1 B2 w v l := h.moved hm.size fun k h1 h2 hl => hm.far k hl (by omega)
theorem CZ.mrk {C1 C2 B1 B2 : Nat} {u w : World} {v : Value} {l : List Tx.Ins} (h : CZ B1 B2 u v l) (hm : Mrk C1 C2 u w) (hd : B2 ≤ C1 ∨ C2 ≤ B1) : CZ B1 B2 w v l := h.moved hm.size fun k h1 h2 hl => hm.far k hl (by omega)
theorem GZ.only {g B1 B2 : Nat} {u w : World} {v : Value} {l : List Int} (h : GZ B1 B2 u v l) (ho : Only g u w) (hd : g < B1 ∨ B2 ≤ g) : GZ B1 B2 w v l := h.moved (by rw [ho.size]; exact Nat.le_refl _) fun k h1 h2 _ => ho.block k (by omega)
theorem CZ.only {g B1 B2 : Nat} {u w : World} {v : Value} {l : List Tx.Ins} (h : CZ B1 B2 u v l) (ho : Only g u w) (hd : g < B1 ∨ B2 ≤ g) : CZ B1 B2 w v l := h.moved (by rw [ho.size]; exact Nat.le_refl _) fun k h1 h2 _ => ho.block k (by omega)

theorem Cells.keep {D : Nat} {u w : World} {k : Nat} {vs : List Value} (h : Cells u k vs) (hk : Keep D u w) (hD : D ≤ k) : Cells w k vs := fun i x hx => by
  obtain ⟨h1, h2⟩ := h i x hx
  have l := cell_lt h1
  exact ⟨(hk.cell (p := ⟨k, i, none⟩) hD l).trans h1, (hk.frozen (p := ⟨k, i, none⟩) hD l).trans h2⟩
theorem Cells.mrk {C1 C2 : Nat} {u w : World} {k : Nat} {vs : List Value} (h : Cells u k vs) (hm : Mrk C1 C2 u w) (hd : k < C1 ∨ C2 ≤ k) : Cells w k vs := fun i x hx => by
  obtain ⟨h1, h2⟩ := h i x hx
  have l := cell_lt h1
  have hb := hm.far k l hd
  exact ⟨(World.cell?_of_block (w := u) hb).trans h1, (World.frozen?_of_block (w := u) hb).trans h2⟩
end Pg
end Go.Proofs.Ytffkkhaiedhaiaa

/- Rows that a call has made, in sets of blocks: of values, objects, frames; machines. -/
namespace Go.Proofs.Ytffkkhaiedhaiaa
namespace Pg
open Go.ChangeShapes Go.WideShapes Go.ChangeAt Go.RowKit St

/-- Only blocks of the set S have turned. -/
structure Tch (S : Nat → Prop) (u w : World) : Prop where
  os : w.os = u.os
  tape : w.tape = u.tape
  output : w.output = u.output
  size : u.heap.size ≤ w.heap.size
  far : ∀ k, k < u.heap.size → ¬ S k → w.heap[k]? = u.heap[k]?
theorem Tch.refl (S : Nat → Prop) (u : World) : Tch S u u := ⟨rfl, rfl, rfl, Nat.le_refl _, fun _ _ _ => rfl⟩
theorem Tch.trans {S : Nat → Prop} {u v w : World} (h : Tch S u v) (k : Tch S v w) : Tch S u w :=
  ⟨k.os.trans h.os, k.tape.trans h.tape, k.output.trans h.output, Nat.le_trans h.size k.size, fun i hi hs => (k.far i (Nat.lt_of_lt_of_le hi h.size) hs).trans (h.far i hi hs)⟩
theorem Tch.mono {S T : Nat → Prop} {u w : World} (h : Tch S u w) (hs : ∀ k, S k → T k) : Tch T u w := ⟨h.os, h.tape, h.output, h.size, fun k hk ht => h.far k hk fun s => ht (hs k s)⟩
theorem Tch.of {S : Nat → Prop} {u w : World} (h : Below u.heap.size u w) : Tch S u w := ⟨h.os, h.tape, h.output, h.size, fun k hk _ => h.block k hk⟩
theorem Tch.set {S : Nat → Prop} (u : World) {p : Addr} (hp : S p.block) (v : Value) : Tch S u (u.setCell p v) := by
  have hb := (Below.refl 0 u).setCell (p := p) (Nat.zero_le _) v
  exact ⟨hb.os, hb.tape, hb.output, hb.size, fun k _ hk => Below.heap_setCell u p v k (fun e => hk (e ▸ hp))⟩
theorem Tch.below {S : Nat → Prop} {u w : World} (h : Tch S u w) {B : Nat} (hB : B ≤ u.heap.size) (hs : ∀ k, S k → B ≤ k) : Below B u w := ⟨h.os, h.tape, h.output, h.size, fun k hk => h.far k (by omega) fun s => by have := hs k s; omega⟩
theorem Cells.tch {S : Nat → Prop} {u w : World} {k : Nat} {vs : List Value} (h : Cells u k vs) (ht : Tch S u w) (hs : ¬ S k) : Cells w k vs := fun i x hx => by
  obtain ⟨h1, h2⟩ := h i x hx
  have e := ht.far k (cell_lt h1) hs
  exact ⟨(World.cell?_of_block (w := u) e).trans h1, (World.frozen?_of_block (w := u) e).trans h2⟩

/-- A row of values that a call has made, its block in S; or nil. -/
def VZ (S : Nat → Prop) (w : World) (v : Value) (l : List Vl) : Prop :=
  (∃ g c, v = .slice (some ⟨g, 0, none⟩) l.length (l.length + c) ∧ S g ∧ g < w.heap.size ∧ (∀ j x, l[j]? = some x → VAt w g (j * 2) x) ∧ Room w g (l.length * 2)) ∨ (v = .slice none 0 0 ∧ l = [])
theorem VZ.moved {S : Nat → Prop} {u w : World} {v : Value} {l : List Vl} (h : VZ S u v l) (hs : u.heap.size ≤ w.heap.size) (hb : ∀ k, S k → k < u.heap.size → w.heap[k]? = u.heap[k]?) : VZ S w v l := by
  rcases h with ⟨g, c, hv, h1, h2, h3, h4⟩ | h
  · have e := hb g h1 h2
    refine .inl ⟨g, c, hv, h1, Nat.lt_of_lt_of_le h2 hs, fun j x hj => ?_, room_moved e h4⟩
    obtain ⟨c0, c1⟩ := h3 j x hj
    exact ⟨(World.cell?_of_block (w := u) e).trans c0, (World.cell?_of_block (w := u) e).trans c1⟩
  · exact .inr h
theorem VZ.on {S : Nat → Prop} {u w : World} {v : Value} {l : List Vl} (h : VZ S u v l) (hb : Below u.heap.size u w) : VZ S w v l := h.moved hb.size fun k _ hk => hb.block k hk
theorem VZ.tch {S T : Nat → Prop} {u w : World} {v : Value} {l : List Vl} (h : VZ S u v l) (ht : Tch T u w) (hd : ∀ k, S k → ¬ T k) : VZ S w v l := h.moved ht.size fun k hk hl => ht.far k hl (hd k hk)
theorem VZ.cap {S : Nat → Prop} {w : World} {a : Option Addr} {n c : Nat} {l : List Vl} (h : VZ S w (.slice a n c) l) : l.length ≤ c := by
  rcases h with ⟨g, c', hv, _⟩ | ⟨_, rfl⟩
  · injection hv with _ _ e
    omega
  · exact Nat.zero_le _
theorem VZ.form {S : Nat → Prop} {w : World} {v : Value} {l : List Vl} (h : VZ S w v l) : ∃ a c, v = .slice a l.length c := by
  rcases h with ⟨g, c, hv, _⟩ | ⟨rfl, rfl⟩
  · exact ⟨_, _, hv⟩
  · exact ⟨none, 0, rfl⟩
theorem VZ.weak {S T : Nat → Prop} {w : World} {v : Value} {l : List Vl} (h : VZ S w v l) (hs : ∀ k, S k → T k) : VZ T w v l := by
  rcases h with ⟨g, c, hv, h1, h2⟩ | h
  · exact .inl ⟨g, c, hv, hs g h1, h2⟩
  · exact .inr h
theorem VZ.sv {S : Nat → Prop} {w : World} {v : Value} {l : List Vl} (h : VZ S w v l) : SV true 0 w v l := by
  rcases h with ⟨g, c, rfl, h1, h2, h3, h4⟩ | ⟨rfl, rfl⟩
  · exact ⟨_, _, rfl, fun _ h => by simp at h, fun _ => ⟨g, 0, rfl, Nat.zero_le _, ⟨h2, fun _ j hj => by rw [Nat.zero_add]; exact (h4 j hj).2⟩, fun j x hj => by rw [Nat.zero_add]; exact h3 j x hj⟩⟩
  · exact ⟨none, 0, rfl, fun _ _ => rfl, fun h => by simp at h⟩

/-- Objects: one, its rows in the sets T. -/
def OE (T : Nat → Nat → Prop) (w : World) (b o : Nat) (x : Ob) : Prop := ∃ v1, w.cell? ⟨b, o, none⟩ = some (.int .i64 x.cls) ∧ w.cell? ⟨b, o + 1, none⟩ = some v1 ∧ VZ (T 0) w v1 x.flds
theorem OE.moved {T : Nat → Nat → Prop} {u w : World} {b o : Nat} {x : Ob} (h : OE T u b o x) (hs : u.heap.size ≤ w.heap.size) (hg : w.heap[b]? = u.heap[b]?) (hb : ∀ j k, T j k → k < u.heap.size → w.heap[k]? = u.heap[k]?) : OE T w b o x := by
  obtain ⟨v1, c0, c1, z0⟩ := h
  exact ⟨v1, (World.cell?_of_block (w := u) hg).trans c0, (World.cell?_of_block (w := u) hg).trans c1, z0.moved hs (hb 0)⟩
/-- A row of them that a call has made: the row's block and all of theirs in S, all unlike. -/
def OZ (S : Nat → Prop) (w : World) (v : Value) (l : List Ob) : Prop :=
  (∃ g c, ∃ T : Nat → Nat → Nat → Prop, v = .slice (some ⟨g, 0, none⟩) l.length c ∧ S g ∧ g < w.heap.size ∧ Room w g (l.length * 2) ∧ (∀ i j k, T i j k → S k ∧ k ≠ g) ∧ (∀ i j i' j' k, T i j k → T i' j' k → i = i' ∧ j = j') ∧ ∀ i x, l[i]? = some x → OE (T i) w g (i * 2) x) ∨ (v = .slice none 0 0 ∧ l = [])
theorem OZ.moved {S : Nat → Prop} {u w : World} {v : Value} {l : List Ob} (h : OZ S u v l) (hs : u.heap.size ≤ w.heap.size) (hb : ∀ k, S k → k < u.heap.size → w.heap[k]? = u.heap[k]?) : OZ S w v l := by
  rcases h with ⟨g, c, T, hv, h1, h2, h3, h4, h5, h6⟩ | h
  · exact .inl ⟨g, c, T, hv, h1, Nat.lt_of_lt_of_le h2 hs, room_moved (hb g h1 h2) h3, h4, h5, fun i x hx => (h6 i x hx).moved hs (hb g h1 h2) fun j k hT hk => hb k (h4 i j k hT).1 hk⟩
  · exact .inr h
theorem OZ.on {S : Nat → Prop} {u w : World} {v : Value} {l : List Ob} (h : OZ S u v l) (hb : Below u.heap.size u w) : OZ S w v l := h.moved hb.size fun k _ hk => hb.block k hk
theorem OZ.tch {S T : Nat → Prop} {u w : World} {v : Value} {l : List Ob} (h : OZ S u v l) (ht : Tch T u w) (hd : ∀ k, S k → ¬ T k) : OZ S w v l := h.moved ht.size fun k hk hl => ht.far k hl (hd k hk)
theorem OZ.form {S : Nat → Prop} {w : World} {v : Value} {l : List Ob} (h : OZ S w v l) : ∃ a c, v = .slice a l.length c := by
  rcases h with ⟨g, c, _, hv, _⟩ | ⟨rfl, rfl⟩
  · exact ⟨_, c, hv⟩
  · exact ⟨none, 0, rfl⟩
theorem OZ.weak {S S' : Nat → Prop} {w : World} {v : Value} {l : List Ob} (h : OZ S w v l) (hs : ∀ k, S k → S' k) : OZ S' w v l := by
  rcases h with ⟨g, c, T, hv, h1, h2, h3, h4, h5⟩ | h
  · exact .inl ⟨g, c, T, hv, hs g h1, h2, h3, fun i j k hT => ⟨hs k (h4 i j k hT).1, (h4 i j k hT).2⟩, h5⟩
  · exact .inr h
theorem OZ.row {S : Nat → Prop} {w : World} {v : Value} {l : List Ob} (h : OZ S w v l) : SO true 0 w v l := by
  rcases h with ⟨g, c, T, rfl, h1, h2, h3, h4, h5, h6⟩ | ⟨rfl, rfl⟩
  · refine ⟨_, c, rfl, fun _ h => by simp at h, fun _ => ⟨g, 0, rfl, Nat.zero_le _, ⟨h2, fun _ j hj => by rw [Nat.zero_add]; exact (h3 j hj).2⟩, fun j x hj => ?_⟩⟩
    obtain ⟨v1, c0, c1, z0⟩ := h6 j x hj
    rw [Nat.zero_add]
    exact ⟨v1, c0, c1, z0.sv⟩
  · exact ⟨none, 0, rfl, fun _ _ => rfl, fun h => by simp at h⟩

/-- Frames: one, its rows in the sets T. -/
def FE (T : Nat → Nat → Prop) (w : World) (b o : Nat) (x : Fr) : Prop := ∃ v1 v2, w.cell? ⟨b, o, none⟩ = some (.int .i64 x.cls) ∧ w.cell? ⟨b, o + 1, none⟩ = some (.int .i64 x.name) ∧ w.cell? ⟨b, o + 2, none⟩ = some (.int .i64 x.pos) ∧ w.cell? ⟨b, o + 3, none⟩ = some v1 ∧ w.cell? ⟨b, o + 4, none⟩ = some v2 ∧ VZ (T 0) w v1 x.stk ∧ VZ (T 1) w v2 x.loc
theorem FE.moved {T : Nat → Nat → Prop} {u w : World} {b o : Nat} {x : Fr} (h : FE T u b o x) (hs : u.heap.size ≤ w.heap.size) (hg : w.heap[b]? = u.heap[b]?) (hb : ∀ j k, T j k → k < u.heap.size → w.heap[k]? = u.heap[k]?) : FE T w b o x := by
  obtain ⟨v1, v2, c0, c1, c2, c3, c4, z0, z1⟩ := h
  exact ⟨v1, v2, (World.cell?_of_block (w := u) hg).trans c0, (World.cell?_of_block (w := u) hg).trans c1, (World.cell?_of_block (w := u) hg).trans c2, (World.cell?_of_block (w := u) hg).trans c3, (World.cell?_of_block (w := u) hg).trans c4, z0.moved hs (hb 0), z1.moved hs (hb 1)⟩
/-- A row of them that a call has made: the row's block and all of theirs in S, all unlike. -/
def FZ (S : Nat → Prop) (w : World) (v : Value) (l : List Fr) : Prop :=
  (∃ g c, ∃ T : Nat → Nat → Nat → Prop, v = .slice (some ⟨g, 0, none⟩) l.length c ∧ S g ∧ g < w.heap.size ∧ Room w g (l.length * 5) ∧ (∀ i j k, T i j k → S k ∧ k ≠ g) ∧ (∀ i j i' j' k, T i j k → T i' j' k → i = i' ∧ j = j') ∧ ∀ i x, l[i]? = some x → FE (T i) w g (i * 5) x) ∨ (v = .slice none 0 0 ∧ l = [])
theorem FZ.moved {S : Nat → Prop} {u w : World} {v : Value} {l : List Fr} (h : FZ S u v l) (hs : u.heap.size ≤ w.heap.size) (hb : ∀ k, S k → k < u.heap.size → w.heap[k]? = u.heap[k]?) : FZ S w v l := by
  rcases h with ⟨g, c, T, hv, h1, h2, h3, h4, h5, h6⟩ | h
  · exact .inl ⟨g, c, T, hv, h1, Nat.lt_of_lt_of_le h2 hs, room_moved (hb g h1 h2) h3, h4, h5, fun i x hx => (h6 i x hx).moved hs (hb g h1 h2) fun j k hT hk => hb k (h4 i j k hT).1 hk⟩
  · exact .inr h
theorem FZ.on {S : Nat → Prop} {u w : World} {v : Value} {l : List Fr} (h : FZ S u v l) (hb : Below u.heap.size u w) : FZ S w v l := h.moved hb.size fun k _ hk => hb.block k hk
theorem FZ.tch {S T : Nat → Prop} {u w : World} {v : Value} {l : List Fr} (h : FZ S u v l) (ht : Tch T u w) (hd : ∀ k, S k → ¬ T k) : FZ S w v l := h.moved ht.size fun k hk hl => ht.far k hl (hd k hk)
theorem FZ.form {S : Nat → Prop} {w : World} {v : Value} {l : List Fr} (h : FZ S w v l) : ∃ a c, v = .slice a l.length c := by
  rcases h with ⟨g, c, _, hv, _⟩ | ⟨rfl, rfl⟩
  · exact ⟨_, c, hv⟩
  · exact ⟨none, 0, rfl⟩
theorem FZ.weak {S S' : Nat → Prop} {w : World} {v : Value} {l : List Fr} (h : FZ S w v l) (hs : ∀ k, S k → S' k) : FZ S' w v l := by
  rcases h with ⟨g, c, T, hv, h1, h2, h3, h4, h5⟩ | h
  · exact .inl ⟨g, c, T, hv, hs g h1, h2, h3, fun i j k hT => ⟨hs k (h4 i j k hT).1, (h4 i j k hT).2⟩, h5⟩
  · exact .inr h
theorem FZ.row {S : Nat → Prop} {w : World} {v : Value} {l : List Fr} (h : FZ S w v l) : SF true 0 w v l := by
  rcases h with ⟨g, c, T, rfl, h1, h2, h3, h4, h5, h6⟩ | ⟨rfl, rfl⟩
  · refine ⟨_, c, rfl, fun _ h => by simp at h, fun _ => ⟨g, 0, rfl, Nat.zero_le _, ⟨h2, fun _ j hj => by rw [Nat.zero_add]; exact (h3 j hj).2⟩, fun j x hj => ?_⟩⟩
    obtain ⟨v1, v2, c0, c1, c2, c3, c4, z0, z1⟩ := h6 j x hj
    rw [Nat.zero_add]
    exact ⟨v1, v2, c0, c1, c2, c3, c4, z0.sv, z1.sv⟩
  · exact ⟨none, 0, rfl, fun _ _ => rfl, fun h => by simp at h⟩

/-- A row of numbers that a call has made, its block in S; or nil. -/
def NZ (S : Nat → Prop) (w : World) (v : Value) (l : List Int) : Prop :=
  (∃ g c, v = .slice (some ⟨g, 0, none⟩) l.length c ∧ S g ∧ g < w.heap.size ∧ IRow w g 0 l ∧ Room w g l.length) ∨ (v = .slice none 0 0 ∧ l = [])
theorem NZ.moved {S : Nat → Prop} {u w : World} {v : Value} {l : List Int} (h : NZ S u v l) (hs : u.heap.size ≤ w.heap.size) (hb : ∀ k, S k → k < u.heap.size → w.heap[k]? = u.heap[k]?) : NZ S w v l := by
  rcases h with ⟨g, c, hv, h1, h2, h3, h4⟩ | h
  · have e := hb g h1 h2
    exact .inl ⟨g, c, hv, h1, Nat.lt_of_lt_of_le h2 hs, fun j x hj => (World.cell?_of_block (w := u) e).trans (h3 j x hj), room_moved e h4⟩
  · exact .inr h
theorem NZ.on {S : Nat → Prop} {u w : World} {v : Value} {l : List Int} (h : NZ S u v l) (hb : Below u.heap.size u w) : NZ S w v l := h.moved hb.size fun k _ hk => hb.block k hk
theorem NZ.tch {S T : Nat → Prop} {u w : World} {v : Value} {l : List Int} (h : NZ S u v l) (ht : Tch T u w) (hd : ∀ k, S k → ¬ T k) : NZ S w v l := h.moved ht.size fun k hk hl => ht.far k hl (hd k hk)
theorem NZ.form {S : Nat → Prop} {w : World} {v : Value} {l : List Int} (h : NZ S w v l) : ∃ a c, v = .slice a l.length c := by
  rcases h with ⟨g, c, hv, _⟩ | ⟨rfl, rfl⟩
  · exact ⟨_, c, hv⟩
  · exact ⟨none, 0, rfl⟩
theorem NZ.si {S : Nat → Prop} {w : World} {v : Value} {l : List Int} (h : NZ S w v l) : SI true 0 w v l := by
  rcases h with ⟨g, c, rfl, h1, h2, h3, h4⟩ | ⟨rfl, rfl⟩
  · exact SI.row (Nat.zero_le _) h2 h3 h4
  · exact SI.nil _ _ _
/-- A machine that a call has made. -/
def MZ (S : Nat → Prop) (w : World) (vh vf vs : Value) (m : Mc) : Prop := ∃ S1 S2 S3 : Nat → Prop, (∀ k, S1 k → S k) ∧ (∀ k, S2 k → S k) ∧ (∀ k, S3 k → S k) ∧ (∀ k, S1 k → ¬ S2 k) ∧ (∀ k, S1 k → ¬ S3 k) ∧ (∀ k, S2 k → ¬ S3 k) ∧ OZ S1 w vh m.heap ∧ FZ S2 w vf m.frames ∧ NZ S3 w vs m.said
theorem MZ.moved {S : Nat → Prop} {u w : World} {vh vf vs : Value} {m : Mc} (h : MZ S u vh vf vs m) (hs : u.heap.size ≤ w.heap.size) (hb : ∀ k, S k → k < u.heap.size → w.heap[k]? = u.heap[k]?) : MZ S w vh vf vs m := by
  obtain ⟨S1, S2, S3, i1, i2, i3, d1, d2, d3, h1, h2, h3⟩ := h
  exact ⟨S1, S2, S3, i1, i2, i3, d1, d2, d3, h1.moved hs fun k hk => hb k (i1 k hk), h2.moved hs fun k hk => hb k (i2 k hk), h3.moved hs fun k hk => hb k (i3 k hk)⟩
theorem MZ.on {S : Nat → Prop} {u w : World} {vh vf vs : Value} {m : Mc} (h : MZ S u vh vf vs m) (hb : Below u.heap.size u w) : MZ S w vh vf vs m := h.moved hb.size fun k _ hk => hb.block k hk
theorem MZ.tch {S T : Nat → Prop} {u w : World} {vh vf vs : Value} {m : Mc} (h : MZ S u vh vf vs m) (ht : Tch T u w) (hd : ∀ k, S k → ¬ T k) : MZ S w vh vf vs m := h.moved ht.size fun k hk hl => ht.far k hl (hd k hk)
theorem MZ.mrk {S : Nat → Prop} {C1 C2 : Nat} {u w : World} {vh vf vs : Value} {m : Mc} (h : MZ S u vh vf vs m) (hm : Mrk C1 C2 u w) (hd : ∀ k, S k → k < C1 ∨ C2 ≤ k) : MZ S w vh vf vs m := h.moved hm.size fun k hk hl => hm.far k hl (hd k hk)
theorem MZ.weak {S S' : Nat → Prop} {w : World} {vh vf vs : Value} {m : Mc} (h : MZ S w vh vf vs m) (hs : ∀ k, S k → S' k) : MZ S' w vh vf vs m := by
  obtain ⟨S1, S2, S3, i1, i2, i3, r⟩ := h
  exact ⟨S1, S2, S3, fun k hk => hs k (i1 k hk), fun k hk => hs k (i2 k hk), fun k hk => hs k (i3 k hk), r⟩
theorem MZ.kv {S : Nat → Prop} {w : World} {vh vf vs : Value} {m : Mc} (h : MZ S w vh vf vs m) : KV true 0 w vh vf vs m := by
  obtain ⟨S1, S2, S3, _, _, _, _, _, _, h1, h2, h3⟩ := h
  exact ⟨h1.row, h2.row, h3.si⟩
theorem MZ.form {S : Nat → Prop} {w : World} {vh vf vs : Value} {m : Mc} (h : MZ S w vh vf vs m) : (∃ a c, vh = .slice a m.heap.length c) ∧ (∃ a c, vf = .slice a m.frames.length c) ∧ ∃ a c, vs = .slice a m.said.length c := by
  obtain ⟨S1, S2, S3, _, _, _, _, _, _, h1, h2, h3⟩ := h
  exact ⟨h1.form, h2.form, h3.form⟩
end Pg
end Go.Proofs.Ytffkkhaiedhaiaa

/- The laws' own marks in machines that a call has made. -/
namespace Go.Proofs.Ytffkkhaiedhaiaa
namespace Pg
open Go.ChangeShapes Go.WideShapes Go.ChangeAt Go.RowKit St

theorem OE.far {T : Nat → Nat → Prop} {w : World} {b o i : Nat} {x : Ob} (h : OE T w b o x) (hT : ∀ j k, T j k → k ≠ b) (hi : i < o ∨ o + 1 < i) (v : Value) : OE T (w.setCell ⟨b, i, none⟩ v) b o x := by
  obtain ⟨v1, c0, c1, z0⟩ := h
  have ht : Tch (fun k => k = b) w (w.setCell ⟨b, i, none⟩ v) := Tch.set (S := fun k => k = b) w (p := ⟨b, i, none⟩) rfl v
  exact ⟨v1, (World.cell?_setCell_other _ _ _ _ (ne_off (by omega))).trans c0, (World.cell?_setCell_other _ _ _ _ (ne_off (by omega))).trans c1, z0.tch ht (hT 0)⟩
theorem OE.tch {T : Nat → Nat → Prop} {R : Nat → Prop} {u w : World} {b o : Nat} {x : Ob} (h : OE T u b o x) (ht : Tch R u w) (hb : ¬ R b) (hd : ∀ j k, T j k → ¬ R k) (hl : b < u.heap.size) : OE T w b o x := h.moved ht.size (ht.far b hl hb) fun j k hk hkl => ht.far k hkl (hd j k hk)

theorem FE.far {T : Nat → Nat → Prop} {w : World} {b o i : Nat} {x : Fr} (h : FE T w b o x) (hT : ∀ j k, T j k → k ≠ b) (hi : i < o ∨ o + 4 < i) (v : Value) : FE T (w.setCell ⟨b, i, none⟩ v) b o x := by
  obtain ⟨v1, v2, c0, c1, c2, c3, c4, z0, z1⟩ := h
  have ht : Tch (fun k => k = b) w (w.setCell ⟨b, i, none⟩ v) := Tch.set (S := fun k => k = b) w (p := ⟨b, i, none⟩) rfl v
  exact ⟨v1, v2, (World.cell?_setCell_other _ _ _ _ (ne_off (by omega))).trans c0, (World.cell?_setCell_other _ _ _ _ (ne_off (by omega))).trans c1, (World.cell?_setCell_other _ _ _ _ (ne_off (by omega))).trans c2, (World.cell?_setCell_other _ _ _ _ (ne_off (by omega))).trans c3, (World.cell?_setCell_other _ _ _ _ (ne_off (by omega))).trans c4, z0.tch ht (hT 0), z1.tch ht (hT 1)⟩
theorem FE.tch {T : Nat → Nat → Prop} {R : Nat → Prop} {u w : World} {b o : Nat} {x : Fr} (h : FE T u b o x) (ht : Tch R u w) (hb : ¬ R b) (hd : ∀ j k, T j k → ¬ R k) (hl : b < u.heap.size) : FE T w b o x := h.moved ht.size (ht.far b hl hb) fun j k hk hkl => ht.far k hkl (hd j k hk)
end Pg
end Go.Proofs.Ytffkkhaiedhaiaa

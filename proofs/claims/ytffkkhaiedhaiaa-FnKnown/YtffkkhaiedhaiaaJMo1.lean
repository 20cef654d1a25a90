/- Rows that a call has made, in sets of blocks: of values, objects, frames; machines. -/
import Derived.Test.YtffkkhaiedhaiaaJPf0
import Derived.Test.YtffkkhaiedhaiaaJPz0
import Derived.Laws.OwnMore
namespace Go.Proofs.Ytffkkhaiedhaiaa
namespace Pg
open Go.ChangeShapes Go.WideShapes Go.ChangeAt Go.RowKit St

/-- Only blocks of the set S have turned. -/
structure Tch (S : Nat → Prop) (u w : World) : Prop where
  os : w.os = u.os
  tape : w.tape = u.tape
  output : w.output = u.output
  size : u.heap.size ≤ w.heap.size
  far : ∀ k, k < u.heap.size → ¬ S k → w.heap[k]? = u.heap[k]?
theorem Tch.refl (S : Nat → Prop) (u : World) : Tch S u u := ⟨rfl, rfl, rfl, Nat.le_refl _, fun _ _ _ => rfl⟩
theorem Tch.trans {S : Nat → Prop} {u v w : World} (h : Tch S u v) (k : Tch S v w) : Tch S u w :=
  ⟨k.os.trans h.os, k.tape.trans h.tape, k.output.trans h.output, Nat.le_trans h.size k.size, fun i hi hs => (k.far i (Nat.lt_of_lt_of_le hi h.size) hs).trans (h.far i hi hs)⟩
theorem Tch.mono {S T : Nat → Prop} {u w : World} (h : Tch S u w) (hs : ∀ k, S k → T k) : Tch T u w := ⟨h.os, h.tape, h.output, h.size, fun k hk ht => h.far k hk fun s => ht (hs k s)⟩
theorem Tch.of {S : Nat → Prop} {u w : World} (h : Below u.heap.size u w) : Tch S u w := ⟨h.os, h.tape, h.output, h.size, fun k hk _ => h.block k hk⟩
theorem Tch.set {S : Nat → Prop} (u : World) {p : Addr} (hp : S p.block) (v : Value) : Tch S u (u.setCell p v) := by
  have hb := (Below.refl 0 u).setCell (p := p) (Nat.zero_le _) v
  exact ⟨hb.os, hb.tape, hb.output, hb.size, fun k _ hk => Below.heap_setCell u p v k (fun e => hk (e ▸ hp))⟩
theorem Tch.below {S : Nat → Prop} {u w : World} (h : Tch S u w) {B : Nat} (hB : B ≤ u.heap.size) (hs : ∀ k, S k → B ≤ k) : Below B u w := ⟨h.os, h.tape, h.output, h.size, fun k hk => h.far k (by omega) fun s => by have := hs k s; omega⟩
theorem Cells.tch {S : Nat → Prop} {u w : World} {k : Nat} {vs : List Value} (h : Cells u k vs) (ht : Tch S u w) (hs : ¬ S k) : Cells w k vs := fun i x hx => by
  obtain ⟨h1, h2⟩ := h i x hx
  have e := ht.far k (cell_lt h1) hs
  exact ⟨(World.cell?_of_block (w := u) e).trans h1, (World.frozen?_of_block (w := u) e).trans h2⟩

/-- A row of values that a call has made, its block in S; or nil. -/
def VZ (S : Nat → Prop) (w : World) (v : Value) (l : List Vl) : Prop :=
  (∃ g c, v = .slice (some ⟨g, 0, none⟩) l.length (l.length + c) ∧ S g ∧ g < w.heap.size ∧ (∀ j x, l[j]? = some x → VAt w g (j * 2) x) ∧ Room w g (l.length * 2)) ∨ (v = .slice none 0 0 ∧ l = [])
theorem VZ.moved {S : Nat → Prop} {u w : World} {v : Value} {l : List Vl} (h : VZ S u v l) (hs : u.heap.size ≤ w.heap.size) (hb : ∀ k, S k → k < u.heap.size → w.heap[k]? = u.heap[k]?) : VZ S w v l := by
  rcases h with ⟨g, c, hv, h1, h2, h3, h4⟩ | h
  · have e := hb g h1 h2
    refine .inl ⟨g, c, hv, h1, Nat.lt_of_lt_of_le h2 hs, fun j x hj => ?_, room_moved e h4⟩
    obtain ⟨c0, c1⟩ := h3 j x hj
    exact ⟨(World.cell?_of_block (w := u) e).trans c0, (World.cell?_of_block (w := u) e).trans c1⟩
  · exact .inr h
theorem VZ.on {S : Nat → Prop} {u w : World} {v : Value} {l : List Vl} (h : VZ S u v l) (hb : Below u.heap.size u w) : VZ S w v l := h.moved hb.size fun k _ hk => hb.block k hk
theorem VZ.tch {S T : Nat → Prop} {u w : World} {v : Value} {l : List Vl} (h : VZ S u v l) (ht : Tch T u w) (hd : ∀ k, S k → ¬ T k) : VZ S w v l := h.moved ht.size fun k hk hl => ht.far k hl (hd k hk)
theorem VZ.cap {S : Nat → Prop} {w : World} {a : Option Addr} {n c : Nat} {l : List Vl} (h : VZ S w (.slice a n c) l) : l.length ≤ c := by
  rcases h with ⟨g, c', hv, _⟩ | ⟨_, rfl⟩
  · injection hv with _ _ e
    omega
  · exact Nat.zero_le _
theorem VZ.form {S : Nat → Prop} {w : World} {v : Value} {l : List Vl} (h : VZ S w v l) : ∃ a c, v = .slice a l.length c := by
  rcases h with ⟨g, c, hv, _⟩ | ⟨rfl, rfl⟩
  · exact ⟨_, _, hv⟩
  · exact ⟨none, 0, rfl⟩
theorem VZ.weak {S T : Nat → Prop} {w : World} {v : Value} {l : List Vl} (h : VZ S w v l) (hs : ∀ k, S k → T k) : VZ T w v l := by
  rcases h with ⟨g, c, hv, h1, h2⟩ | h
  · exact .inl ⟨g, c, hv, hs g h1, h2⟩
  · exact .inr h
theorem VZ.sv {S : Nat → Prop} {w : World} {v : Value} {l : List Vl} (h : VZ S w v l) : SV true 0 w v l := by
  rcases h with ⟨g, c, rfl, h1, h2, h3, h4⟩ | ⟨rfl, rfl⟩
  · exact ⟨_, _, rfl, fun _ h => by simp at h, fun _ => ⟨g, 0, rfl, Nat.zero_le _, ⟨h2, fun _ j hj => by rw [Nat.zero_add]; exact (h4 j hj).2⟩, fun j x hj => by rw [Nat.zero_add]; exact h3 j x hj⟩⟩
  · exact ⟨none, 0, rfl, fun _ _ => rfl, fun h => by simp at h⟩

/-- Objects: one, its rows in the sets T. -/
def OE (T : Nat → Nat → Prop) (w : World) (b o : Nat) (x : Ob) : Prop := ∃ v1, w.cell? ⟨b, o, none⟩ = some (.int .i64 x.cls) ∧ w.cell? ⟨b, o + 1, none⟩ = some v1 ∧ VZ (T 0) w v1 x.flds
theorem OE.moved {T : Nat → Nat → Prop} {u w : World} {b o : Nat} {x : Ob} (h : OE T u b o x) (hs : u.heap.size ≤ w.heap.size) (hg : w.heap[b]? = u.heap[b]?) (hb : ∀ j k, T j k → k < u.heap.size → w.heap[k]? = u.heap[k]?) : OE T w b o x := by
  obtain ⟨v1, c0, c1, z0⟩ := h
  exact ⟨v1, (World.cell?_of_block (w := u) hg).trans c0, (World.cell?_of_block (w := u) hg).trans c1, z0.moved hs (hb 0)⟩
/-- A row of them that a call has made: the row's block and all of theirs in S, all unlike. -/
def OZ (S : Nat → Prop) (w : World) (v : Value) (l : List Ob) : Prop :=
  (∃ g c, ∃ T : Nat → Nat → Nat → Prop, v = .slice (some ⟨g, 0, none⟩) l.length c ∧ S g ∧ g < w.heap.size ∧ Room w g (l.length * 2) ∧ (∀ i j k, T i j k → S k ∧ k ≠ g) ∧ (∀ i j i' j' k, T i j k → T i' j' k → i = i' ∧ j = j') ∧ ∀ i x, l[i]? = some x → OE (T i) w g (i * 2) x) ∨ (v = .slice none 0 0 ∧ l = [])
theorem OZ.moved {S : Nat → Prop} {u w : World} {v : Value} {l : List Ob} (h : OZ S u v l) (hs : u.heap.size ≤ w.heap.size) (hb : ∀ k, S k → k < u.heap.size → w.heap[k]? = u.heap[k]?) : OZ S w v l := by
  rcases h with ⟨g, c, T, hv, h1, h2, h3, h4, h5, h6⟩ | h
  · exact .inl ⟨g, c, T, hv, h1, Nat.lt_of_lt_of_le h2 hs, room_moved (hb g h1 h2) h3, h4, h5, fun i x hx => (h6 i x hx).moved hs (hb g h1 h2) fun j k hT hk => hb k (h4 i j k hT).1 hk⟩
  · exact .inr h
theorem OZ.on {S : Nat → Prop} {u w : World} {v : Value} {l : List Ob} (h : OZ S u v l) (hb : Below u.heap.size u w) : OZ S w v l := h.moved hb.size fun k _ hk => hb.block k hk
theorem OZ.tch {S T : Nat → Prop} {u w : World} {v : Value} {l : List Ob} (h : OZ S u v l) (ht : Tch T u w) (hd : ∀ k, S k → ¬ T k) : OZ S w v l := h.moved ht.size fun k hk hl => ht.far k hl (hd k hk)
theorem OZ.form {S : Nat → Prop} {w : World} {v : Value} {l : List Ob} (h : OZ S w v l) : ∃ a c, v = .slice a l.length c := by
  rcases h with ⟨g, c, _, hv, _⟩ | ⟨rfl, rfl⟩
  · exact ⟨_, c, hv⟩
  · exact ⟨none, 0, rfl⟩
theorem OZ.weak {S S' : Nat → Prop} {w : World} {v : Value} {l : List Ob} (h : OZ S w v l) (hs : ∀ k, S k → S' k) : OZ S' w v l := by
  rcases h with ⟨g, c, T, hv, h1, h2, h3, h4, h5⟩ | h
  · exact .inl ⟨g, c, T, hv, hs g h1, h2, h3, fun i j k hT => ⟨hs k (h4 i j k hT).1, (h4 i j k hT).2⟩, h5⟩
  · exact .inr h
theorem OZ.row {S : Nat → Prop} {w : World} {v : Value} {l : List Ob} (h : OZ S w v l) : SO true 0 w v l := by
  rcases h with ⟨g, c, T, rfl, h1, h2, h3, h4, h5, h6⟩ | ⟨rfl, rfl⟩
  · refine ⟨_, c, rfl, fun _ h => by simp at h, fun _ => ⟨g, 0, rfl, Nat.zero_le _, ⟨h2, fun _ j hj => by rw [Nat.zero_add]; exact (h3 j hj).2⟩, fun j x hj => ?_⟩⟩
    obtain ⟨v1, c0, c1, z0⟩ := h6 j x hj
    rw [Nat.zero_add]
    exact ⟨v1, c0, c1, z0.sv⟩
  · exact ⟨none, 0, rfl, fun _ _ => rfl, fun h => by simp at h⟩

/-- Frames: one, its rows in the sets T. -/
def FE (T : Nat → Nat → Prop) (w : World) (b o : Nat) (x : Fr) : Prop := ∃ v1 v2, w.cell? ⟨b, o, none⟩ = some (.int .i64 x.cls) ∧ w.cell? ⟨b, o + 1, none⟩ = some (.int .i64 x.name) ∧ w.cell? ⟨b, o + 2, none⟩ = some (.int .i64 x.pos) ∧ w.cell? ⟨b, o + 3, none⟩ = some v1 ∧ w.cell? ⟨b, o + 4, none⟩ = some v2 ∧ VZ (T 0) w v1 x.stk ∧ VZ (T 1) w v2 x.loc
theorem FE.moved {T : Nat → Nat → Prop} {u w : World} {b o : Nat} {x : Fr} (h : FE T u b o x) (hs : u.heap.size ≤ w.heap.size) (hg : w.heap[b]? = u.heap[b]?) (hb : ∀ j k, T j k → k < u.heap.size → w.heap[k]? = u.heap[k]?) : FE T w b o x := by
  obtain ⟨v1, v2, c0, c1, c2, c3, c4, z0, z1⟩ := h
  exact ⟨v1, v2, (World.cell?_of_block (w := u) hg).trans c0, (World.cell?_of_block (w := u) hg).trans c1, (World.cell?_of_block (w := u) hg).trans c2, (World.cell?_of_block (w := u) hg).trans c3, (World.cell?_of_block (w := u) hg).trans c4, z0.moved hs (hb 0), z1.moved hs (hb 1)⟩
/-- A row of them that a call has made: the row's block and all of theirs in S, all unlike. -/
def FZ (S : Nat → Prop) (w : World) (v : Value) (l : List Fr) : Prop :=
  (∃ g c, ∃ T : Nat → Nat → Nat → Prop, v = .slice (some ⟨g, 0, none⟩) l.length c ∧ S g ∧ g < w.heap.size ∧ Room w g (l.length * 5) ∧ (∀ i j k, T i j k → S k ∧ k ≠ g) ∧ (∀ i j i' j' k, T i j k → T i' j' k → i = i' ∧ j = j') ∧ ∀ i x, l[i]? = some x → FE (T i) w g (i * 5) x) ∨ (v = .slice none 0 0 ∧ l = [])
theorem FZ.moved {S : Nat → Prop} {u w : World} {v : Value} {l : List Fr} (h : FZ S u v l) (hs : u.heap.size ≤ w.heap.size) (hb : ∀ k, S k → k < u.heap.size → w.heap[k]? = u.heap[k]?) : FZ S w v l := by
  rcases h with ⟨g, c, T, hv, h1, h2, h3, h4, h5, h6⟩ | h
  · exact .inl ⟨g, c, T, hv, h1, Nat.lt_of_lt_of_le h2 hs, room_moved (hb g h1 h2) h3, h4, h5, fun i x hx => (h6 i x hx).moved hs (hb g h1 h2) fun j k hT hk => hb k (h4 i j k hT).1 hk⟩
  · exact .inr h
theorem FZ.on {S : Nat → Prop} {u w : World} {v : Value} {l : List Fr} (h : FZ S u v l) (hb : Below u.heap.size u w) : FZ S w v l := h.moved hb.size fun k _ hk => hb.block k hk
theorem FZ.tch {S T : Nat → Prop} {u w : World} {v : Value} {l : List Fr} (h : FZ S u v l) (ht : Tch T u w) (hd : ∀ k, S k → ¬ T k) : FZ S w v l := h.moved ht.size fun k hk hl => ht.far k hl (hd k hk)
theorem FZ.form {S : Nat → Prop} {w : World} {v : Value} {l : List Fr} (h : FZ S w v l) : ∃ a c, v = .slice a l.length c := by
  rcases h with ⟨g, c, _, hv, _⟩ | ⟨rfl, rfl⟩
  · exact ⟨_, c, hv⟩
  · exact ⟨none, 0, rfl⟩
theorem FZ.weak {S S' : Nat → Prop} {w : World} {v : Value} {l : List Fr} (h : FZ S w v l) (hs : ∀ k, S k → S' k) : FZ S' w v l := by
  rcases h with ⟨g, c, T, hv, h1, h2, h3, h4, h5⟩ | h
  · exact .inl ⟨g, c, T, hv, hs g h1, h2, h3, fun i j k hT => ⟨hs k (h4 i j k hT).1, (h4 i j k hT).2⟩, h5⟩
  · exact .inr h
theorem FZ.row {S : Nat → Prop} {w : World} {v : Value} {l : List Fr} (h : FZ S w v l) : SF true 0 w v l := by
  rcases h with ⟨g, c, T, rfl, h1, h2, h3, h4, h5, h6⟩ | ⟨rfl, rfl⟩
  · refine ⟨_, c, rfl, fun _ h => by simp at h, fun _ => ⟨g, 0, rfl, Nat.zero_le _, ⟨h2, fun _ j hj => by rw [Nat.zero_add]; exact (h3 j hj).2⟩, fun j x hj => ?_⟩⟩
    obtain ⟨v1, v2, c0, c1, c2, c3, c4, z0, z1⟩ := h6 j x hj
    rw [Nat.zero_add]
    exact ⟨v1, v2, c0, c1, c2, c3, c4, z0.sv, z1.sv⟩
  · exact ⟨none, 0, rfl, fun _ _ => rfl, fun h => by simp at h⟩

/-- A row of numbers that a call has made, its block in S; or nil. -/
def NZ (S : Nat → Prop) (w : World) (v : Value) (l : List Int) : Prop :=
  (∃ g c, v = .slice (some ⟨g, 0, none⟩) l.length c ∧ S g ∧ g < w.heap.size ∧ IRow w g 0 l ∧ Room w g l.length) ∨ (v = .slice none 0 0 ∧ l = [])
theorem NZ.moved {S : Nat → Prop} {u w : World} {v : Value} {l : List Int} (h : NZ S u v l) (hs : u.heap.size ≤ w.heap.size) (hb : ∀ k, S k → k < u.heap.size → w.heap[k]? = u.heap[k]?) : NZ S w v l := by
  rcases h with ⟨g, c, hv, h1, h2, h3, h4⟩ | h
  · have e := hb g h1 h2
    exact .inl ⟨g, c, hv, h1, Nat.lt_of_lt_of_le h2 hs, fun j x hj => (World.cell?_of_block (w := u) e).trans (h3 j x hj), room_moved e h4⟩
  · exact .inr h
theorem NZ.on {S : Nat → Prop} {u w : World} {v : Value} {l : List Int} (h : NZ S u v l) (hb : Below u.heap.size u w) : NZ S w v l := h.moved hb.size fun k _ hk => hb.block k hk
theorem NZ.tch {S T : Nat → Prop} {u w : World} {v : Value} {l : List Int} (h : NZ S u v l) (ht : Tch T u w) (hd : ∀ k, S k → ¬ T k) : NZ S w v l := h.moved ht.size fun k hk hl => ht.far k hl (hd k hk)
theorem NZ.form {S : Nat → Prop} {w : World} {v : Value} {l : List Int} (h : NZ S w v l) : ∃ a c, v = .slice a l.length c := by
  rcases h with ⟨g, c, hv, _⟩ | ⟨rfl, rfl⟩
  · exact ⟨_, c, hv⟩
  · exact ⟨none, 0, rfl⟩
theorem NZ.si {S : Nat → Prop} {w : World} {v : Value} {l : List Int} (h : NZ S w v l) : SI true 0 w v l := by
  rcases h with ⟨g, c, rfl, h1, h2, h3, h4⟩ | ⟨rfl, rfl⟩
  · exact SI.row (Nat.zero_le _) h2 h3 h4
  · exact SI.nil _ _ _
/-- A machine that a call has made. -/
def MZ (S : Nat → Prop) (w : World) (vh vf vs : Value) (m : Mc) : Prop := ∃ S1 S2 S3 : Nat → Prop, (∀ k, S1 k → S k) ∧ (∀ k, S2 k → S k) ∧ (∀ k, S3 k → S k) ∧ (∀ k, S1 k → ¬ S2 k) ∧ (∀ k, S1 k → ¬ S3 k) ∧ (∀ k, S2 k → ¬ S3 k) ∧ OZ S1 w vh m.heap ∧ FZ S2 w vf m.frames ∧ NZ S3 w vs m.said
theorem MZ.moved {S : Nat → Prop} {u w : World} {vh vf vs : Value} {m : Mc} (h : MZ S u vh vf vs m) (hs : u.heap.size ≤ w.heap.size) (hb : ∀ k, S k → k < u.heap.size → w.heap[k]? = u.heap[k]?) : MZ S w vh vf vs m := by
  obtain ⟨S1, S2, S3, i1, i2, i3, d1, d2, d3, h1, h2, h3⟩ := h
  exact ⟨S1, S2, S3, i1, i2, i3, d1, d2, d3, h1.moved hs fun k hk => hb k (i1 k hk), h2.moved hs fun k hk => hb k (i2 k hk), h3.moved hs fun k hk => hb k (i3 k hk)⟩
theorem MZ.on {S : Nat → Prop} {u w : World} {vh vf vs : Value} {m : Mc} (h : MZ S u vh vf vs m) (hb : Below u.heap.size u w) : MZ S w vh vf vs m := h.moved hb.size fun k _ hk => hb.block k hk
theorem MZ.tch {S T : Nat → Prop} {u w : World} {vh vf vs : Value} {m : Mc} (h : MZ S u vh vf vs m) (ht : Tch T u w) (hd : ∀ k, S k → ¬ T k) : MZ S w vh vf vs m := h.moved ht.size fun k hk hl => ht.far k hl (hd k hk)
theorem MZ.mrk {S : Nat → Prop} {C1 C2 : Nat} {u w : World} {vh vf vs : Value} {m : Mc} (h : MZ S u vh vf vs m) (hm : Mrk C1 C2 u w) (hd : ∀ k, S k → k < C1 ∨ C2 ≤ k) : MZ S w vh vf vs m := h.moved hm.size fun k hk hl => hm.far k hl (hd k hk)
theorem MZ.weak {S S' : Nat → Prop} {w : World} {vh vf vs : Value} {m : Mc} (h : MZ S w vh vf vs m) (hs : ∀ k, S k → S' k) : MZ S' w vh vf vs m := by
  obtain ⟨S1, S2, S3, i1, i2, i3, r⟩ := h
  exact ⟨S1, S2, S3, fun k hk => hs k (i1 k hk), fun k hk => hs k (i2 k hk), fun k hk => hs k (i3 k hk), r⟩
theorem MZ.kv {S : Nat → Prop} {w : World} {vh vf vs : Value} {m : Mc} (h : MZ S w vh vf vs m) : KV true 0 w vh vf vs m := by
  obtain ⟨S1, S2, S3, _, _, _, _, _, _, h1, h2, h3⟩ := h
  exact ⟨h1.row, h2.row, h3.si⟩
theorem MZ.form {S : Nat → Prop} {w : World} {vh vf vs : Value} {m : Mc} (h : MZ S w vh vf vs m) : (∃ a c, vh = .slice a m.heap.length c) ∧ (∃ a c, vf = .slice a m.frames.length c) ∧ ∃ a c, vs = .slice a m.said.length c := by
  obtain ⟨S1, S2, S3, _, _, _, _, _, _, h1, h2, h3⟩ := h
  exact ⟨h1.form, h2.form, h3.form⟩
end Pg
end Go.Proofs.Ytffkkhaiedhaiaa

/- Rows of records of one's own, to be changed in place: the rows that the records hold lie in sets of blocks. -/
namespace Go.Proofs.Ytffkkhaiedhaiaa
namespace Pg
open Go.ChangeShapes Go.WideShapes Go.ChangeAt Go.RowKit St

theorem flatten_at {α : Type} {q : Nat} : ∀ (L : List (List α)), (∀ y ∈ L, y.length = q) → ∀ (i d : Nat) (y : List α), L[i]? = some y → d < q → L.flatten[i * q + d]? = y[d]?
  | [], _, i, d, y, h, _ => by simp at h
  | z :: L, hq, 0, d, y, h, hd => by
    simp at h
    subst h
    have := hq z (by simp)
    rw [List.flatten_cons, Nat.zero_mul, Nat.zero_add, List.getElem?_append_left (by omega)]
  | z :: L, hq, i + 1, d, y, h, hd => by
    have hz := hq z (by simp)
    have e : (i + 1) * q + d = z.length + (i * q + d) := by rw [hz, Nat.succ_mul]; omega
    rw [List.flatten_cons, e, List.getElem?_append_right (by omega), Nat.add_sub_cancel_left]
    exact flatten_at L (fun y hy => hq y (by simp [hy])) i d y (by simpa using h) hd
theorem flatten_set {α : Type} {q : Nat} : ∀ (L : List (List α)), (∀ y ∈ L, y.length = q) → ∀ (i d : Nat) (y : List α) (u : α), L[i]? = some y → d < q → L.flatten.set (i * q + d) u = (L.set i (y.set d u)).flatten
  | [], _, i, d, y, u, h, _ => by simp at h
  | z :: L, hq, 0, d, y, u, h, hd => by
    simp at h
    subst h
    have := hq z (by simp)
    rw [List.flatten_cons, Nat.zero_mul, Nat.zero_add, List.set_append_left _ _ (by omega), List.set_cons_zero, List.flatten_cons]
  | z :: L, hq, i + 1, d, y, u, h, hd => by
    have hz := hq z (by simp)
    have e : (i + 1) * q + d = z.length + (i * q + d) := by rw [hz, Nat.succ_mul]; omega
    rw [List.flatten_cons, e, List.set_append_right _ _ (by omega), Nat.add_sub_cancel_left, List.set_cons_succ, List.flatten_cons]
    rw [flatten_set L (fun y hy => hq y (by simp [hy])) i d y u (by simpa using h) hd]

/-- Records: a head of numbers, then rows of values. -/
structure RecT (α : Type) where
  t : TypeId
  n : Nat
  r : Nat
  hd : α → List Value
  rows : α → List (List Vl)
  hdn : ∀ x, (hd x).length = n
  rwn : ∀ x, (rows x).length = r
variable {α : Type}
/-- The records' cells, c being the rows' values. -/
def recs (R : RecT α) (l : List α) (c : List (List Value)) : List (List Value) := List.zipWith (fun x ys => R.hd x ++ ys) l c
theorem recs_len {R : RecT α} {l : List α} {c : List (List Value)} (hc : c.length = l.length) : (recs R l c).length = l.length := by simp [recs, hc]
theorem recs_at {R : RecT α} {l : List α} {c : List (List Value)} {i : Nat} {x : α} {ys : List Value} (h1 : l[i]? = some x) (h2 : c[i]? = some ys) : (recs R l c)[i]? = some (R.hd x ++ ys) := by
  unfold recs
  rw [List.getElem?_zipWith, h1, h2]
theorem recs_app {R : RecT α} {l : List α} {c : List (List Value)} (hc : c.length = l.length) (x : α) (ys : List Value) : recs R (l ++ [x]) (c ++ [ys]) = recs R l c ++ [R.hd x ++ ys] := by
  unfold recs
  rw [List.zipWith_append hc.symm]
  rfl
theorem recs_set {R : RecT α} {l : List α} {c : List (List Value)} (hc : c.length = l.length) (i : Nat) (x : α) (ys : List Value) : recs R (l.set i x) (c.set i ys) = (recs R l c).set i (R.hd x ++ ys) := by
  refine List.ext_getElem? fun j => ?_
  unfold recs
  rw [List.getElem?_zipWith, List.getElem?_set, List.getElem?_set, List.getElem?_set, List.getElem?_zipWith, List.length_zipWith, hc, Nat.min_self]
  by_cases e : i = j
  · rw [if_pos e, if_pos e, if_pos e]
    by_cases hl : j < l.length
    · subst e; rw [if_pos hl, if_pos hl, if_pos hl]
    · subst e; rw [if_neg hl, if_neg hl, if_neg hl]
  · rw [if_neg e, if_neg e, if_neg e]
structure OwnRc (R : RecT α) (B : Nat) (w : World) (v : Value) (l : List α) (c : List (List Value)) (T : Nat → Nat → Nat → Prop) : Prop where
  len : c.length = l.length
  own : w.ownsRow B R.t (R.n + R.r) v l.length (recs R l c).flatten
  off : ∀ i j k, T i j k → v.ownBlock ≠ some k
  lt : ∀ i j k, T i j k → k < w.heap.size
  one : ∀ i j i' j' k, T i j k → T i' j' k → i = i' ∧ j = j'
  wid : ∀ (i : Nat) (ys : List Value), c[i]? = some ys → ys.length = R.r
  row : ∀ (i : Nat) (x : α) (ys : List Value), l[i]? = some x → c[i]? = some ys → ∀ (j : Nat) (rr : List Vl) (y : Value), (R.rows x)[j]? = some rr → ys[j]? = some y → VZ (T i j) w y rr
theorem own_moved {u w : World} {B q n : Nat} {e : TypeId} {v : Value} {xs : List Value} (h : u.ownsRow B e q v n xs) (hg : ∀ g, v.ownBlock = some g → w.heap[g]? = u.heap[g]?) : w.ownsRow B e q v n xs := by
  obtain ⟨h1, h2 | ⟨g, cap, cur, rfl, h3, h4, h5⟩⟩ := h
  · exact ⟨h1, .inl h2⟩
  · exact ⟨h1, .inr ⟨g, cap, cur, rfl, h3, (hg g rfl).trans h4, h5⟩⟩
theorem OwnRc.moved {R : RecT α} {B : Nat} {u w : World} {v : Value} {l : List α} {c : List (List Value)} {T : Nat → Nat → Nat → Prop} (h : OwnRc R B u v l c T) (hs : u.heap.size ≤ w.heap.size) (hg : ∀ g, v.ownBlock = some g → w.heap[g]? = u.heap[g]?) (hb : ∀ i j k, T i j k → w.heap[k]? = u.heap[k]?) : OwnRc R B w v l c T :=
  ⟨h.len, own_moved h.own hg, h.off, fun i j k hk => Nat.lt_of_lt_of_le (h.lt i j k hk) hs, h.one, h.wid, fun i x ys h1 h2 j rr y h3 h4 => (h.row i x ys h1 h2 j rr y h3 h4).moved hs fun k hk _ => hb i j k hk⟩
theorem OwnRc.on {R : RecT α} {B : Nat} {u w : World} {v : Value} {l : List α} {c : List (List Value)} {T : Nat → Nat → Nat → Prop} (h : OwnRc R B u v l c T) (hb : Below u.heap.size u w) : OwnRc R B w v l c T :=
  h.moved hb.size (fun g hg => hb.block g (h.own.lt g hg).2) fun i j k hk => hb.block k (h.lt i j k hk)
/-- One more. -/
theorem OwnRc.app {R : RecT α} {B : Nat} {u w : World} {v v' : Value} {l : List α} {c : List (List Value)} {T : Nat → Nat → Nat → Prop} (h : OwnRc R B u v l c T) {x : α} {ys : List Value} {U : Nat → Nat → Prop}
    (hown : w.ownsRow B R.t (R.n + R.r) v' (l.length + 1) ((recs R l c).flatten ++ (R.hd x ++ ys))) (hgr : u.grownBy w v.ownBlock) (hv' : v'.ownBlock = v.ownBlock ∨ v'.ownBlock = some u.heap.size) (hy : ys.length = R.r)
    (hrow : ∀ (j : Nat) (rr : List Vl) (y : Value), (R.rows x)[j]? = some rr → ys[j]? = some y → VZ (U j) u y rr) (hU : ∀ j k, U j k → k < u.heap.size ∧ v.ownBlock ≠ some k ∧ ∀ i j', ¬ T i j' k) (hU1 : ∀ j j' k, U j k → U j' k → j = j') :
    OwnRc R B w v' (l ++ [x]) (c ++ [ys]) (fun i j k => if i = l.length then U j k else T i j k) := by
  have hoff : ∀ k, k < u.heap.size → v.ownBlock ≠ some k → v'.ownBlock ≠ some k := fun k hk hne => by
    rcases hv' with e | e
    · rw [e]; exact hne
    · rw [e]; intro e'; injection e' with e'; omega
  have hblk : ∀ k, k < u.heap.size → v.ownBlock ≠ some k → w.heap[k]? = u.heap[k]? := fun k hk hne => hgr.block k hk fun e => hne e.symm
  refine ⟨by simp [h.len], ?_, fun i j k hk => ?_, fun i j k hk => ?_, fun i j i' j' k hk hk' => ?_, fun i zs hz => ?_, fun i z zs h1 h2 j rr y h3 h4 => ?_⟩
  · rw [List.length_append, List.length_singleton, recs_app h.len, List.flatten_append]
    simpa using hown
  · split at hk
    · exact hoff k (hU j k hk).1 (hU j k hk).2.1
    · exact hoff k (h.lt i j k hk) (h.off i j k hk)
  · split at hk
    · exact Nat.lt_of_lt_of_le (hU j k hk).1 hgr.size
    · exact Nat.lt_of_lt_of_le (h.lt i j k hk) hgr.size
  · split at hk
    · rename_i e
      split at hk'
      · rename_i e'
        exact ⟨e.trans e'.symm, hU1 j j' k hk hk'⟩
      · exact absurd hk' ((hU j k hk).2.2 i' j')
    · split at hk'
      · exact absurd hk ((hU j' k hk').2.2 i j)
      · exact h.one i j i' j' k hk hk'
  · by_cases e : i < c.length
    · rw [List.getElem?_append_left e] at hz
      exact h.wid i zs hz
    · rw [List.getElem?_append_right (by omega)] at hz
      have := List.mem_of_getElem? hz
      simp at this
      rw [this]; exact hy
  · by_cases e : i < l.length
    · rw [List.getElem?_append_left e] at h1
      rw [List.getElem?_append_left (by rw [h.len]; exact e)] at h2
      refine ((h.row i z zs h1 h2 j rr y h3 h4).moved hgr.size fun k hk _ => hblk k (h.lt i j k hk) (h.off i j k hk)).weak fun k hk => ?_
      rw [if_neg (by omega)]
      exact hk
    · rw [List.getElem?_append_right (by omega)] at h1
      rw [List.getElem?_append_right (by rw [h.len]; omega), h.len] at h2
      have hi : i - l.length = 0 := by
        have := (List.getElem?_eq_some_iff.1 h1).1
        simp at this
        omega
      rw [hi] at h1 h2
      simp at h1 h2
      subst h1
      subst h2
      refine ((hrow j rr y h3 h4).moved hgr.size fun k hk _ => hblk k (hU j k hk).1 (hU j k hk).2.1).weak fun k hk => ?_
      rw [if_pos (by omega)]
      exact hk
/-- One turned. -/
theorem OwnRc.turn {R : RecT α} {B : Nat} {u w : World} {v : Value} {l : List α} {c : List (List Value)} {T : Nat → Nat → Nat → Prop} (h : OwnRc R B u v l c T) {i : Nat} {x : α} {ys : List Value} {U : Nat → Nat → Prop} (hi : i < l.length)
    (hown : w.ownsRow B R.t (R.n + R.r) v l.length (recs R (l.set i x) (c.set i ys)).flatten) (hs : u.heap.size ≤ w.heap.size) (hb : ∀ i' j k, i' ≠ i → T i' j k → w.heap[k]? = u.heap[k]?) (hy : ys.length = R.r)
    (hrow : ∀ (j : Nat) (rr : List Vl) (y : Value), (R.rows x)[j]? = some rr → ys[j]? = some y → VZ (U j) w y rr) (hU : ∀ j k, U j k → k < w.heap.size ∧ v.ownBlock ≠ some k ∧ ∀ i' j', i' ≠ i → ¬ T i' j' k) (hU1 : ∀ j j' k, U j k → U j' k → j = j') :
    OwnRc R B w v (l.set i x) (c.set i ys) (fun i' j k => if i' = i then U j k else T i' j k) := by
  refine ⟨by simp [h.len], by rw [List.length_set]; exact hown, fun i' j k hk => ?_, fun i' j k hk => ?_, fun i' j i'' j' k hk hk' => ?_, fun i' zs hz => ?_, fun i' z zs h1 h2 j rr y h3 h4 => ?_⟩
  · split at hk
    · exact (hU j k hk).2.1
    · exact h.off i' j k hk
  · split at hk
    · exact (hU j k hk).1
    · exact Nat.lt_of_lt_of_le (h.lt i' j k hk) hs
  · split at hk
    · rename_i e
      split at hk'
      · rename_i e'
        exact ⟨e.trans e'.symm, hU1 j j' k hk hk'⟩
      · rename_i e'
        exact absurd hk' ((hU j k hk).2.2 i'' j' e')
    · rename_i e
      split at hk'
      · exact absurd hk ((hU j' k hk').2.2 i' j e)
      · exact h.one i' j i'' j' k hk hk'
  · rw [List.getElem?_set] at hz
    split at hz
    · split at hz
      · injection hz with hz
        rw [← hz]; exact hy
      · simp at hz
    · exact h.wid i' zs hz
  · rw [List.getElem?_set] at h1 h2
    by_cases e : i = i'
    · subst e
      rw [if_pos rfl, if_pos hi] at h1
      rw [if_pos rfl, if_pos (by rw [h.len]; exact hi)] at h2
      injection h1 with h1
      injection h2 with h2
      subst h1
      subst h2
      refine (hrow j rr y h3 h4).weak fun k hk => ?_
      rw [if_pos rfl]
      exact hk
    · rw [if_neg e] at h1 h2
      refine ((h.row i' z zs h1 h2 j rr y h3 h4).moved hs fun k hk _ => hb i' j k (fun e' => e e'.symm) hk).weak fun k hk => ?_
      rw [if_neg fun e' => e e'.symm]
      exact hk
/-- A record's cell. -/
theorem OwnRc.cell {R : RecT α} {B g n cap : Nat} {w : World} {l : List α} {c : List (List Value)} {T : Nat → Nat → Nat → Prop} (h : OwnRc R B w (.slice (some ⟨g, 0, none⟩) n cap) l c T) {i : Nat} {x : α} {ys : List Value} (h1 : l[i]? = some x) (h2 : c[i]? = some ys) {d : Nat} (hd : d < R.n + R.r) :
    w.cell? ⟨g, i * (R.n + R.r) + d, none⟩ = (R.hd x ++ ys)[d]? := by
  have hq : ∀ y ∈ recs R l c, y.length = R.n + R.r := fun y hy => by
    obtain ⟨i, hi⟩ := List.getElem?_of_mem hy
    unfold recs at hi
    rw [List.getElem?_zipWith] at hi
    cases e1 : l[i]? with
    | none => rw [e1] at hi; simp at hi
    | some a =>
      cases e2 : c[i]? with
      | none => rw [e1, e2] at hi; simp at hi
      | some b =>
        rw [e1, e2] at hi
        simp at hi
        rw [← hi, List.length_append, R.hdn, h.wid i b e2]
  have hf := flatten_at (recs R l c) hq i d _ (recs_at h1 h2) hd
  have hsz := h.own.1
  rw [← hf]
  have hlt : i * (R.n + R.r) + d < (recs R l c).flatten.length := by
    rw [hsz]
    have hi := (List.getElem?_eq_some_iff.1 h1).1
    calc i * (R.n + R.r) + d < i * (R.n + R.r) + (R.n + R.r) := by omega
      _ = (i + 1) * (R.n + R.r) := (Nat.succ_mul _ _).symm
      _ ≤ l.length * (R.n + R.r) := Nat.mul_le_mul_right _ hi
  have := h.own.cells (g := g) rfl _ _ (List.getElem?_eq_getElem hlt)
  rw [Go.WideShapes.add_plain, Nat.zero_add] at this
  rw [this, List.getElem?_eq_getElem hlt]
/-- The program's objects and frames. -/
def recO : RecT Ob := ⟨118, 1, 1, fun x => [.int .i64 x.cls], fun x => [x.flds], fun _ => rfl, fun _ => rfl⟩
def recF : RecT Fr := ⟨49, 3, 2, fun x => [.int .i64 x.cls, .int .i64 x.name, .int .i64 x.pos], fun x => [x.stk, x.loc], fun _ => rfl, fun _ => rfl⟩
end Pg
end Go.Proofs.Ytffkkhaiedhaiaa

/- A machine of one's own: what lies where, and how it is read. -/
namespace Go.Proofs.Ytffkkhaiedhaiaa
namespace Pg
open Go.ChangeShapes Go.WideShapes Go.ChangeAt Go.RowKit St

/-- The blocks of a row of records. -/
def Blk (v : Value) (T : Nat → Nat → Nat → Prop) (k : Nat) : Prop := v.ownBlock = some k ∨ ∃ i j, T i j k
/-- A machine of one's own: its three rows, all blocks apart. -/
structure MOwn (B : Nat) (w : World) (vh vf vs : Value) (m : Mc) (ch cf : List (List Value)) (Th Tf : Nat → Nat → Nat → Prop) : Prop where
  h : OwnRc recO B w vh m.heap ch Th
  f : OwnRc recF B w vf m.frames cf Tf
  s : w.ownsRow B 2 1 vs m.said.length (nums m.said)
  hf : ∀ k, Blk vh Th k → ¬ Blk vf Tf k
  hs : ∀ k, Blk vh Th k → vs.ownBlock ≠ some k
  fs : ∀ k, Blk vf Tf k → vs.ownBlock ≠ some k
  low : ∀ k, Blk vh Th k ∨ Blk vf Tf k ∨ vs.ownBlock = some k → B ≤ k
variable {B : Nat} {u w : World} {vh vf vs : Value} {m : Mc} {ch cf : List (List Value)} {Th Tf : Nat → Nat → Nat → Prop}
theorem MOwn.moved (h : MOwn B u vh vf vs m ch cf Th Tf) (hz : u.heap.size ≤ w.heap.size) (hb : ∀ k, Blk vh Th k ∨ Blk vf Tf k ∨ vs.ownBlock = some k → w.heap[k]? = u.heap[k]?) : MOwn B w vh vf vs m ch cf Th Tf :=
  ⟨h.h.moved hz (fun g hg => hb g (.inl (.inl hg))) (fun i j k hk => hb k (.inl (.inr ⟨i, j, hk⟩))), h.f.moved hz (fun g hg => hb g (.inr (.inl (.inl hg)))) (fun i j k hk => hb k (.inr (.inl (.inr ⟨i, j, hk⟩)))), own_moved h.s fun g hg => hb g (.inr (.inr hg)), h.hf, h.hs, h.fs, h.low⟩
theorem MOwn.lt (h : MOwn B u vh vf vs m ch cf Th Tf) : ∀ k, Blk vh Th k ∨ Blk vf Tf k ∨ vs.ownBlock = some k → k < u.heap.size := by
  rintro k ((hk | ⟨i, j, hk⟩) | (hk | ⟨i, j, hk⟩) | hk)
  · exact (h.h.own.lt k hk).2
  · exact h.h.lt i j k hk
  · exact (h.f.own.lt k hk).2
  · exact h.f.lt i j k hk
  · exact (h.s.lt k hk).2
theorem MOwn.on (h : MOwn B u vh vf vs m ch cf Th Tf) (hb : Below u.heap.size u w) : MOwn B w vh vf vs m ch cf Th Tf := h.moved hb.size fun k hk => hb.block k (h.lt k hk)
theorem OwnRc.so {v : Value} {l : List Ob} {c : List (List Value)} {T : Nat → Nat → Nat → Prop} (h : OwnRc recO B w v l c T) : SO true 0 w v l := by
  obtain ⟨h1, ⟨rfl, h2⟩ | ⟨g, cap, cur, rfl, h3, h4, h5, h6, h7, h8⟩⟩ := h.own
  · rw [List.eq_nil_of_length_eq_zero h2]
    exact ⟨none, 0, rfl, fun _ _ => rfl, fun h => by simp at h⟩
  · refine ⟨_, cap, rfl, fun _ h => by simp at h, fun _ => ⟨g, 0, rfl, Nat.zero_le _, ⟨(h.own.lt g rfl).2, fun _ j _ => by simp [World.frozen?, h4]⟩, fun j x hj => ?_⟩⟩
    have hjl := (List.getElem?_eq_some_iff.1 hj).1
    have hc := List.getElem?_eq_getElem (show j < c.length by rw [h.len]; exact hjl)
    have hw := h.wid j _ hc
    obtain ⟨y, hy⟩ : ∃ y, c[j]'(by rw [h.len]; exact hjl) = [y] := List.length_eq_one_iff.1 hw
    rw [hy] at hc
    have c0 := h.cell hj hc (d := 0) (by decide)
    have c1 := h.cell hj hc (d := 1) (by decide)
    have hv := h.row j x _ hj hc 0 x.flds y rfl rfl
    rw [Nat.zero_add]
    exact ⟨y, c0, c1, hv.sv⟩
theorem two_of {α : Type} {l : List α} (h : l.length = 2) : ∃ y z, l = [y, z] := by
  match l, h with
  | [y, z], _ => exact ⟨y, z, rfl⟩
theorem OwnRc.sf {v : Value} {l : List Fr} {c : List (List Value)} {T : Nat → Nat → Nat → Prop} (h : OwnRc recF B w v l c T) : SF true 0 w v l := by
  obtain ⟨h1, ⟨rfl, h2⟩ | ⟨g, cap, cur, rfl, h3, h4, h5, h6, h7, h8⟩⟩ := h.own
  · rw [List.eq_nil_of_length_eq_zero h2]
    exact ⟨none, 0, rfl, fun _ _ => rfl, fun h => by simp at h⟩
  · refine ⟨_, cap, rfl, fun _ h => by simp at h, fun _ => ⟨g, 0, rfl, Nat.zero_le _, ⟨(h.own.lt g rfl).2, fun _ j _ => by simp [World.frozen?, h4]⟩, fun j x hj => ?_⟩⟩
    have hjl := (List.getElem?_eq_some_iff.1 hj).1
    have hc := List.getElem?_eq_getElem (show j < c.length by rw [h.len]; exact hjl)
    have hw := h.wid j _ hc
    obtain ⟨y, z, hy⟩ : ∃ y z, c[j]'(by rw [h.len]; exact hjl) = [y, z] := two_of hw
    rw [hy] at hc
    have c0 := h.cell hj hc (d := 0) (by decide)
    have c1 := h.cell hj hc (d := 1) (by decide)
    have c2 := h.cell hj hc (d := 2) (by decide)
    have c3 := h.cell hj hc (d := 3) (by decide)
    have c4 := h.cell hj hc (d := 4) (by decide)
    have hv := h.row j x _ hj hc 0 x.stk y rfl rfl
    have hu := h.row j x _ hj hc 1 x.loc z rfl rfl
    rw [Nat.zero_add]
    exact ⟨y, z, c0, c1, c2, c3, c4, hv.sv, hu.sv⟩
theorem own_si {v : Value} {l : List Int} (h : w.ownsRow B 2 1 v l.length (nums l)) : SI true 0 w v l := by
  by_cases hv : v = .slice none 0 0
  · have : l = [] := by
      obtain ⟨h1, ⟨_, h2⟩ | ⟨g, cap, cur, h3, _⟩⟩ := h
      · exact List.eq_nil_of_length_eq_zero h2
      · rw [hv] at h3; cases h3
    rw [hv, this]
    exact SI.nil _ _ _
  · obtain ⟨g, cap, rfl, _, h2, h3, h4⟩ := Grow.gint ⟨h, hv⟩
    exact SI.row (Nat.zero_le _) h2 h3 h4
theorem MOwn.kv (h : MOwn B w vh vf vs m ch cf Th Tf) : KV true 0 w vh vf vs m := ⟨h.h.so, h.f.sf, own_si h.s⟩
/-- A machine without anything. -/
theorem OwnRc.nil {α : Type} (R : RecT α) (B : Nat) (w : World) : OwnRc R B w (.slice none 0 0) [] [] (fun _ _ _ => False) :=
  ⟨rfl, ⟨by simp [recs], .inl ⟨rfl, rfl⟩⟩, fun _ _ _ h => h.elim, fun _ _ _ h => h.elim, fun _ _ _ _ _ h => h.elim, fun i ys h => by simp at h, fun i x ys h => by simp at h⟩
end Pg
end Go.Proofs.Ytffkkhaiedhaiaa

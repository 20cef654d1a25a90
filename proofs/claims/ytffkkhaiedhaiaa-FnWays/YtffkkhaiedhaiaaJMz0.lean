/- Contracts of the laws' own marking of programs: what it leaves alone. -/
import Derived.Test.YtffkkhaiedhaiaaJPg5
import Derived.Test.YtffkkhaiedhaiaaJPc0
namespace Go.Proofs.Ytffkkhaiedhaiaa
namespace Pg
open Go.ChangeShapes Go.WideShapes Go.ChangeAt Go.RowKit St

/-- From u to v numbers alone have turned, in blocks from B1 on and below B2. -/
structure Mrk (B1 B2 : Nat) (u v : World) : Prop where
  os : v.os = u.os
  tape : v.tape = u.tape
  output : v.output = u.output
  size : u.heap.size ≤ v.heap.size
  far : ∀ k, k < u.heap.size → (k < B1 ∨ B2 ≤ k) → v.heap[k]? = u.heap[k]?
  cell : ∀ p : Addr, p.block < u.heap.size → v.cell? p = u.cell? p ∨ ((∃ x, u.cell? p = some (.int .i64 x)) ∧ ∃ y, v.cell? p = some (.int .i64 y))
  frz : ∀ p : Addr, p.block < u.heap.size → v.frozen? p = u.frozen? p
theorem Mrk.refl (B1 B2 : Nat) (u : World) : Mrk B1 B2 u u := ⟨rfl, rfl, rfl, Nat.le_refl _, fun _ _ _ => rfl, fun _ _ => .inl rfl, fun _ _ => rfl⟩
theorem Mrk.trans {B1 B2 : Nat} {u v w : World} (h : Mrk B1 B2 u v) (k : Mrk B1 B2 v w) : Mrk B1 B2 u w :=
  ⟨k.os.trans h.os, k.tape.trans h.tape, k.output.trans h.output, Nat.le_trans h.size k.size, fun i hi hf => (k.far i (Nat.lt_of_lt_of_le hi h.size) hf).trans (h.far i hi hf), fun p hp => by
    have hp' := Nat.lt_of_lt_of_le hp h.size
    rcases h.cell p hp with h1 | ⟨h1, y, h2⟩
    · rcases k.cell p hp' with k1 | ⟨⟨x, k1⟩, k2⟩
      · exact .inl (k1.trans h1)
      · exact .inr ⟨⟨x, h1 ▸ k1⟩, k2⟩
    · rcases k.cell p hp' with k1 | ⟨_, k2⟩
      · exact .inr ⟨h1, y, k1.trans h2⟩
      · exact .inr ⟨h1, k2⟩, fun p hp => (k.frz p (Nat.lt_of_lt_of_le hp h.size)).trans (h.frz p hp)⟩
theorem Mrk.set {B1 B2 : Nat} (u : World) {p : Addr} (h1 : B1 ≤ p.block) (h2 : p.block < B2) {x : Int} (hx : u.cell? p = some (.int .i64 x)) (y : Int) : Mrk B1 B2 u (u.setCell p (.int .i64 y)) := by
  have hb := (Below.refl 0 u).setCell (p := p) (Nat.zero_le _) (.int .i64 y)
  refine ⟨hb.os, hb.tape, hb.output, hb.size, fun k _ hf => Below.heap_setCell u p _ k (by omega), fun q hq => ?_, fun q _ => by simp⟩
  by_cases e : p = q
  · subst e
    exact .inr ⟨⟨x, hx⟩, y, World.cell?_setCell_same _ _ _ hx⟩
  · exact .inl (World.cell?_setCell_other _ _ _ _ e)
theorem Mrk.of {B1 B2 : Nat} {u v : World} (h : Below u.heap.size u v) : Mrk B1 B2 u v :=
  ⟨h.os, h.tape, h.output, h.size, fun k hk _ => h.block k hk, fun _ hp => .inl (h.cell hp), fun _ hp => h.frozen hp⟩
theorem Mrk.below {B1 B2 B : Nat} {u v : World} (h : Mrk B1 B2 u v) (hB : B ≤ B1) (hu : B ≤ u.heap.size) : Below B u v :=
  ⟨h.os, h.tape, h.output, h.size, fun k hk => h.far k (by omega) (.inl (by omega))⟩
theorem Mrk.keep {B1 B2 : Nat} {u v : World} (h : Mrk B1 B2 u v) : Keep B2 u v := ⟨h.size, fun k hk hl => h.far k hl (.inr hk)⟩
theorem Mrk.slice {B1 B2 : Nat} {u v : World} (h : Mrk B1 B2 u v) {p : Addr} {a : Option Addr} {n c : Nat} (hp : u.cell? p = some (.slice a n c)) : v.cell? p = some (.slice a n c) := by
  rcases h.cell p (cell_lt hp) with h1 | ⟨⟨x, h1⟩, _⟩
  · exact h1.trans hp
  · rw [hp] at h1; simp at h1
theorem Mrk.int {B1 B2 : Nat} {u v : World} (h : Mrk B1 B2 u v) {p : Addr} {x : Int} (hp : u.cell? p = some (.int .i64 x)) : ∃ y, v.cell? p = some (.int .i64 y) := by
  rcases h.cell p (cell_lt hp) with h1 | ⟨_, h2⟩
  · exact ⟨x, h1.trans hp⟩
  · exact h2
/-- A number that may be written. -/
def NumW (w : World) (p : Addr) : Prop := (∃ x, w.cell? p = some (.int .i64 x)) ∧ w.frozen? p = false
theorem NumW.mrk {B1 B2 : Nat} {u v : World} {p : Addr} (h : NumW u p) (hm : Mrk B1 B2 u v) : NumW v p := by
  obtain ⟨⟨x, hx⟩, hf⟩ := h
  exact ⟨hm.int hx, (hm.frz p (cell_lt hx)).trans hf⟩
/-- A slice of n elements, each of sz numbers that may be written, in blocks from B1 on and below B2. -/
def ShN (sz B1 B2 : Nat) (w : World) (v : Value) (n : Nat) : Prop :=
  ∃ a cap, v = .slice a n cap ∧ (0 < n → ∃ b o, a = some ⟨b, o, none⟩ ∧ B1 ≤ b ∧ b < B2 ∧ ∀ j, j < n * sz → NumW w ⟨b, o + j, none⟩)
theorem ShN.mrk {sz B1 B2 : Nat} {u v : World} {x : Value} {n : Nat} (h : ShN sz B1 B2 u x n) (hm : Mrk B1 B2 u v) : ShN sz B1 B2 v x n := by
  obtain ⟨a, cap, hv, h⟩ := h
  refine ⟨a, cap, hv, fun h0 => ?_⟩
  obtain ⟨b, o, ha, h1, h2, h3⟩ := h h0
  exact ⟨b, o, ha, h1, h2, fun j hj => (h3 j hj).mrk hm⟩
theorem ShN.form {sz B1 B2 : Nat} {u : World} {x : Value} {n : Nat} (h : ShN sz B1 B2 u x n) : ∃ a cap, x = .slice a n cap := by
  obtain ⟨a, cap, hv, _⟩ := h
  exact ⟨a, cap, hv⟩
def ShMat (B1 B2 : Nat) (w : World) (b o : Nat) (m : Meth) : Prop :=
  ∃ va vc, NumW w ⟨b, o, none⟩ ∧ w.cell? ⟨b, o + 1, none⟩ = some va ∧ NumW w ⟨b, o + 2, none⟩ ∧ w.cell? ⟨b, o + 3, none⟩ = some vc ∧ ShN 1 B1 B2 w va m.args.length ∧ ShN 3 B1 B2 w vc m.code.length
theorem ShMat.mrk {B1 B2 : Nat} {u v : World} {b o : Nat} {m : Meth} (h : ShMat B1 B2 u b o m) (hm : Mrk B1 B2 u v) : ShMat B1 B2 v b o m := by
  obtain ⟨va, vc, h0, h1, h2, h3, h4, h5⟩ := h
  obtain ⟨a1, c1, rfl⟩ := h4.form
  obtain ⟨a2, c2, rfl⟩ := h5.form
  exact ⟨_, _, h0.mrk hm, hm.slice h1, h2.mrk hm, hm.slice h3, h4.mrk hm, h5.mrk hm⟩
def ShM (B1 B2 : Nat) (w : World) (v : Value) (l : List Meth) : Prop :=
  ∃ a cap, v = .slice a l.length cap ∧ (0 < l.length → ∃ b o, a = some ⟨b, o, none⟩ ∧ B1 ≤ b ∧ b < B2 ∧ ∀ j x, l[j]? = some x → ShMat B1 B2 w b (o + j * 4) x)
theorem ShM.mrk {B1 B2 : Nat} {u v : World} {x : Value} {l : List Meth} (h : ShM B1 B2 u x l) (hm : Mrk B1 B2 u v) : ShM B1 B2 v x l := by
  obtain ⟨a, cap, hv, h⟩ := h
  refine ⟨a, cap, hv, fun h0 => ?_⟩
  obtain ⟨b, o, ha, h1, h2, h3⟩ := h h0
  exact ⟨b, o, ha, h1, h2, fun j y hj => (h3 j y hj).mrk hm⟩
theorem ShM.form {B1 B2 : Nat} {u : World} {x : Value} {l : List Meth} (h : ShM B1 B2 u x l) : ∃ a cap, x = .slice a l.length cap := by
  obtain ⟨a, cap, hv, _⟩ := h
  exact ⟨a, cap, hv⟩
def ShKat (B1 B2 : Nat) (w : World) (b o : Nat) (c : Cls) : Prop :=
  ∃ vf vm, NumW w ⟨b, o, none⟩ ∧ w.cell? ⟨b, o + 1, none⟩ = some vf ∧ w.cell? ⟨b, o + 2, none⟩ = some vm ∧ ShN 1 B1 B2 w vf c.fields.length ∧ ShM B1 B2 w vm c.meths
theorem ShKat.mrk {B1 B2 : Nat} {u v : World} {b o : Nat} {c : Cls} (h : ShKat B1 B2 u b o c) (hm : Mrk B1 B2 u v) : ShKat B1 B2 v b o c := by
  obtain ⟨va, vc, h0, h1, h3, h4, h5⟩ := h
  obtain ⟨a1, c1, rfl⟩ := h4.form
  obtain ⟨a2, c2, rfl⟩ := h5.form
  exact ⟨_, _, h0.mrk hm, hm.slice h1, hm.slice h3, h4.mrk hm, h5.mrk hm⟩
def ShK (B1 B2 : Nat) (w : World) (v : Value) (l : Prg) : Prop :=
  ∃ a cap, v = .slice a l.length cap ∧ (0 < l.length → ∃ b o, a = some ⟨b, o, none⟩ ∧ B1 ≤ b ∧ b < B2 ∧ ∀ j x, l[j]? = some x → ShKat B1 B2 w b (o + j * 3) x)
theorem ShK.mrk {B1 B2 : Nat} {u v : World} {x : Value} {l : Prg} (h : ShK B1 B2 u x l) (hm : Mrk B1 B2 u v) : ShK B1 B2 v x l := by
  obtain ⟨a, cap, hv, h⟩ := h
  refine ⟨a, cap, hv, fun h0 => ?_⟩
  obtain ⟨b, o, ha, h1, h2, h3⟩ := h h0
  exact ⟨b, o, ha, h1, h2, fun j y hj => (h3 j y hj).mrk hm⟩

/-- The shape of a fresh program. -/
theorem shI_of {B : Nat} {w : World} {v : Value} {l : List Int} (h : SI true B w v l) : ShN 1 B w.heap.size w v l.length := by
  obtain ⟨a, cap, hv, _, h⟩ := h
  refine ⟨a, cap, hv, fun h0 => ?_⟩
  obtain ⟨b, o, ha, hB, ⟨hl, hf⟩, hx⟩ := h h0
  refine ⟨b, o, ha, hB, hl, fun j hj => ?_⟩
  have hj' : j < l.length := by omega
  have := hx j _ (List.getElem?_eq_getElem hj')
  rw [Nat.mul_one] at this
  exact ⟨⟨_, this⟩, hf rfl j hj⟩
theorem row_num {w : World} {g n : Nat} {l : List Tx.Ins} (hn : n = l.length) (h : Row w g 0 l) (hr : Room w g (l.length * 3)) : ∀ j, j < n * 3 → NumW w ⟨g, 0 + j, none⟩ := by
  intro j hj
  have hq : j / 3 < l.length := by omega
  obtain ⟨c0, c1, c2⟩ := h (j / 3) _ (List.getElem?_eq_getElem hq)
  refine ⟨?_, by rw [Nat.zero_add]; exact (hr j (by omega)).2⟩
  have hm : j % 3 = 0 ∨ j % 3 = 1 ∨ j % 3 = 2 := by omega
  rcases hm with hm | hm | hm
  · have e : 0 + j / 3 * 3 = 0 + j := by omega
    rw [e] at c0; exact ⟨_, c0⟩
  · have e : 0 + j / 3 * 3 + 1 = 0 + j := by omega
    rw [e] at c1; exact ⟨_, c1⟩
  · have e : 0 + j / 3 * 3 + 2 = 0 + j := by omega
    rw [e] at c2; exact ⟨_, c2⟩
theorem shC_of {B : Nat} {w : World} {v : Value} {l : List Tx.Ins} (h : CS B w v l) : ShN 3 B w.heap.size w v l.length := by
  obtain ⟨g, cap, hv, h1, h2, h3, h4⟩ := h
  exact ⟨_, cap, hv, fun _ => ⟨g, 0, rfl, h1, h2, row_num rfl h3 h4⟩⟩
theorem shM_of {B : Nat} {w : World} {v : Value} {l : List Meth} (h : SM front B w v l) : ShM B w.heap.size w v l := by
  obtain ⟨a, cap, hv, _, h⟩ := h
  refine ⟨a, cap, hv, fun h0 => ?_⟩
  obtain ⟨b, o, ha, hB, ⟨hl, hf⟩, hx⟩ := h h0
  refine ⟨b, o, ha, hB, hl, fun j x hj => ?_⟩
  have hjl : j < l.length := (List.getElem?_eq_some_iff.1 hj).1
  have f0 := hf rfl (j * 4) (by omega)
  have f2 := hf rfl (j * 4 + 2) (by omega)
  obtain ⟨va, vc, c0, c1, c2, c3, hv1, hv2⟩ := hx j x hj
  exact ⟨va, vc, ⟨⟨_, c0⟩, f0⟩, c1, ⟨⟨_, c2⟩, by rw [Nat.add_assoc]; exact f2⟩, c3, shI_of hv1, shC_of hv2⟩
theorem shK_of {B : Nat} {w : World} {v : Value} {l : Prg} (h : SK front B w v l) : ShK B w.heap.size w v l := by
  obtain ⟨a, cap, hv, _, h⟩ := h
  refine ⟨a, cap, hv, fun h0 => ?_⟩
  obtain ⟨b, o, ha, hB, ⟨hl, hf⟩, hx⟩ := h h0
  refine ⟨b, o, ha, hB, hl, fun j x hj => ?_⟩
  have hjl : j < l.length := (List.getElem?_eq_some_iff.1 hj).1
  have f0 := hf rfl (j * 3) (by omega)
  obtain ⟨va, vc, c0, c1, c2, hv1, hv2⟩ := hx j x hj
  exact ⟨va, vc, ⟨⟨_, c0⟩, f0⟩, c1, c2, shI_of hv1, shM_of hv2⟩

/-- How many numbers are marked. -/
def cntM (m : Meth) : Nat := 2 + m.args.length + 3 * m.code.length
def cntMs (ms : List Meth) : Nat := sumN (ms.map cntM)
def cntC (c : Cls) : Nat := 1 + c.fields.length + cntMs c.meths
def cntP (p : Prg) : Nat := sumN (p.map cntC)
theorem sumN_lin {α : Type} {f g : α → Nat} (l : List α) (h : ∀ x ∈ l, f x ≤ 3 + 3 * g x) : sumN (l.map f) ≤ 3 * (l.length + sumN (l.map g)) := by
  induction l with
  | nil => simp [sumN]
  | cons x l ih =>
    have h1 := h x (by simp)
    have h2 := ih (fun y hy => h y (by simp [hy]))
    simp only [sumN, List.map_cons, List.foldr_cons, List.length_cons] at h2 ⊢
    omega
theorem cntMs_le (ms : List Meth) : cntMs ms ≤ 3 * szMs ms := sumN_lin ms (fun m _ => by unfold cntM szM; omega)
theorem cntP_le (p : Prg) : cntP p ≤ 3 * szP p := sumN_lin p (fun c _ => by have := cntMs_le c.meths; unfold cntC szC; omega)

end Pg
end Go.Proofs.Ytffkkhaiedhaiaa

/- What stays of rows that a call made; the laws' own marking and holding of rows of numbers that may be nil. -/
namespace Go.Proofs.Ytffkkhaiedhaiaa
namespace Pg
open Go.ChangeShapes Go.WideShapes Go.ChangeAt Go.RowKit St

theorem GZ.mrk {C1 C2 B1 B2 : Nat} {u w : World} {v : Value} {l : List Int} (h : GZ B1 B2 u v l) (hm : Mrk C1 C2 u w) (hd : B2 ≤ C1 ∨ C2 ≤ B1) : GZ B1 B2 w v l := h.moved hm.size fun k h1 h2 hl => hm.far k hl (by omega)
theorem CZ.mrk {C1 C2 B1 B2 : Nat} {u w : World} {v : Value} {l : List Tx.Ins} (h : CZ B1 B2 u v l) (hm : Mrk C1 C2 u w) (hd : B2 ≤ C1 ∨ C2 ≤ B1) : CZ B1 B2 w v l := h.moved hm.size fun k h1 h2 hl => hm.far k hl (by omega)
theorem GZ.only {g B1 B2 : Nat} {u w : World} {v : Value} {l : List Int} (h : GZ B1 B2 u v l) (ho : Only g u w) (hd : g < B1 ∨ B2 ≤ g) : GZ B1 B2 w v l := h.moved (by rw [ho.size]; exact Nat.le_refl _) fun k h1 h2 _ => ho.block k (by omega)
theorem CZ.only {g B1 B2 : Nat} {u w : World} {v : Value} {l : List Tx.Ins} (h : CZ B1 B2 u v l) (ho : Only g u w) (hd : g < B1 ∨ B2 ≤ g) : CZ B1 B2 w v l := h.moved (by rw [ho.size]; exact Nat.le_refl _) fun k h1 h2 _ => ho.block k (by omega)

theorem Cells.keep {D : Nat} {u w : World} {k : Nat} {vs : List Value} (h : Cells u k vs) (hk : Keep D u w) (hD : D ≤ k) : Cells w k vs := fun i x hx => by
  obtain ⟨h1, h2⟩ := h i x hx
  have l := cell_lt h1
  exact ⟨(hk.cell (p := ⟨k, i, none⟩) hD l).trans h1, (hk.frozen (p := ⟨k, i, none⟩) hD l).trans h2⟩
theorem Cells.mrk {C1 C2 : Nat} {u w : World} {k : Nat} {vs : List Value} (h : Cells u k vs) (hm : Mrk C1 C2 u w) (hd : k < C1 ∨ C2 ≤ k) : Cells w k vs := fun i x hx => by
  obtain ⟨h1, h2⟩ := h i x hx
  have l := cell_lt h1
  have hb := hm.far k l hd
  exact ⟨(World.cell?_of_block (w := u) hb).trans h1, (World.frozen?_of_block (w := u) hb).trans h2⟩
theorem below_less {B C : Nat} {u w : World} (h : Below B u w) (hC : C ≤ B) : Below C u w := ⟨h.os, h.tape, h.output, h.size, fun k hk => h.block k (by omega)⟩

/-- The marks m, m + 1 .. of n steps. -/
def marksM (m n : Nat) : List Tx.Ins := (List.range n).map fun (j : Nat) => (((m : Int) + 3 * (j : Int), (m : Int) + 3 * (j : Int) + 1, (m : Int) + 3 * (j : Int) + 1 + 1) : Tx.Ins)
theorem marksM_len (m n : Nat) : (marksM m n).length = n := by simp [marksM]
theorem marksM_at {m n k : Nat} (h : k < n) : (marksM m n)[k]? = some ((m : Int) + 3 * (k : Int), (m : Int) + 3 * (k : Int) + 1, (m : Int) + 3 * (k : Int) + 1 + 1) := by simp [marksM, h]
end Pg
end Go.Proofs.Ytffkkhaiedhaiaa

/- Rows that a call has made, in sets of blocks: of values, objects, frames; machines. -/
namespace Go.Proofs.Ytffkkhaiedhaiaa
namespace Pg
open Go.ChangeShapes Go.WideShapes Go.ChangeAt Go.RowKit St

/-- Only blocks of the set S have turned. -/
structure Tch (S : Nat → Prop) (u w : World) : Prop where
  os : w.os = u.os
  tape : w.tape = u.tape
  output : w.output = u.output
  size : u.heap.size ≤ w.heap.size
  far : ∀ k, k < u.heap.size → ¬ S k → w.heap[k]? = u.heap[k]?
theorem Tch.refl (S : Nat → Prop) (u : World) : Tch S u u := ⟨rfl, rfl, rfl, Nat.le_refl _, fun _ _ _ => rfl⟩
theorem Tch.trans {S : Nat → Prop} {u v w : World} (h : Tch S u v) (k : Tch S v w) : Tch S u w :=
  ⟨k.os.trans h.os, k.tape.trans h.tape, k.output.trans h.output, Nat.le_trans h.size k.size, fun i hi hs => (k.far i (Nat.lt_of_lt_of_le hi h.size) hs).trans (h.far i hi hs)⟩
theorem Tch.mono {S T : Nat → Prop} {u w : World} (h : Tch S u w) (hs : ∀ k, S k → T k) : Tch T u w := ⟨h.os, h.tape, h.output, h.size, fun k hk ht => h.far k hk fun s => ht (hs k s)⟩
theorem Tch.of {S : Nat → Prop} {u w : World} (h : Below u.heap.size u w) : Tch S u w := ⟨h.os, h.tape, h.output, h.size, fun k hk _ => h.block k hk⟩
theorem Tch.set {S : Nat → Prop} (u : World) {p : Addr} (hp : S p.block) (v : Value) : Tch S u (u.setCell p v) := by
  have hb := (Below.refl 0 u).setCell (p := p) (Nat.zero_le _) v
  exact ⟨hb.os, hb.tape, hb.output, hb.size, fun k _ hk => Below.heap_setCell u p v k (fun e => hk (e ▸ hp))⟩
theorem Tch.below {S : Nat → Prop} {u w : World} (h : Tch S u w) {B : Nat} (hB : B ≤ u.heap.size) (hs : ∀ k, S k → B ≤ k) : Below B u w := ⟨h.os, h.tape, h.output, h.size, fun k hk => h.far k (by omega) fun s => by have := hs k s; omega⟩
theorem Cells.tch {S : Nat → Prop} {u w : World} {k : Nat} {vs : List Value} (h : Cells u k vs) (ht : Tch S u w) (hs : ¬ S k) : Cells w k vs := fun i x hx => by
  obtain ⟨h1, h2⟩ := h i x hx
  have e := ht.far k (cell_lt h1) hs
  exact ⟨(World.cell?_of_block (w := u) e).trans h1, (World.frozen?_of_block (w := u) e).trans h2⟩

/-- A row of values that a call has made, its block in S; or nil. -/
def VZ (S : Nat → Prop) (w : World) (v : Value) (l : List Vl) : Prop :=
  (∃ g c, v = .slice (some ⟨g, 0, none⟩) l.length (l.length + c) ∧ S g ∧ g < w.heap.size ∧ (∀ j x, l[j]? = some x → VAt w g (j * 2) x) ∧ Room w g (l.length * 2)) ∨ (v = .slice none 0 0 ∧ l = [])
theorem VZ.moved {S : Nat → Prop} {u w : World} {v : Value} {l : List Vl} (h : VZ S u v l) (hs : u.heap.size ≤ w.heap.size) (hb : ∀ k, S k → k < u.heap.size → w.heap[k]? = u.heap[k]?) : VZ S w v l := by
  rcases h with ⟨g, c, hv, h1, h2, h3, h4⟩ | h
  · have e := hb g h1 h2
    refine .inl ⟨g, c, hv, h1, Nat.lt_of_lt_of_le h2 hs, fun j x hj => ?_, room_moved e h4⟩
    obtain ⟨c0, c1⟩ := h3 j x hj
    exact ⟨(World.cell?_of_block (w := u) e).trans c0, (World.cell?_of_block (w := u) e).trans c1⟩
  · exact .inr h
theorem VZ.on {S : Nat → Prop} {u w : World} {v : Value} {l : List Vl} (h : VZ S u v l) (hb : Below u.heap.size u w) : VZ S w v l := h.moved hb.size fun k _ hk => hb.block k hk
theorem VZ.tch {S T : Nat → Prop} {u w : World} {v : Value} {l : List Vl} (h : VZ S u v l) (ht : Tch T u w) (hd : ∀ k, S k → ¬ T k) : VZ S w v l := h.moved ht.size fun k hk hl => ht.far k hl (hd k hk)
theorem VZ.cap {S : Nat → Prop} {w : World} {a : Option Addr} {n c : Nat} {l : List Vl} (h : VZ S w (.slice a n c) l) : l.length ≤ c := by
  rcases h with ⟨g, c', hv, _⟩ | ⟨_, rfl⟩
  · injection hv with _ _ e
    omega
  · exact Nat.zero_le _
theorem VZ.form {S : Nat → Prop} {w : World} {v : Value} {l : List Vl} (h : VZ S w v l) : ∃ a c, v = .slice a l.length c := by
  rcases h with ⟨g, c, hv, _⟩ | ⟨rfl, rfl⟩
  · exact ⟨_, _, hv⟩
  · exact ⟨none, 0, rfl⟩
theorem VZ.weak {S T : Nat → Prop} {w : World} {v : Value} {l : List Vl} (h : VZ S w v l) (hs : ∀ k, S k → T k) : VZ T w v l := by
  rcases h with ⟨g, c, hv, h1, h2⟩ | h
  · exact .inl ⟨g, c, hv, hs g h1, h2⟩
  · exact .inr h
theorem VZ.sv {S : Nat → Prop} {w : World} {v : Value} {l : List Vl} (h : VZ S w v l) : SV true 0 w v l := by
  rcases h with ⟨g, c, rfl, h1, h2, h3, h4⟩ | ⟨rfl, rfl⟩
  · exact ⟨_, _, rfl, fun _ h => by simp at h, fun _ => ⟨g, 0, rfl, Nat.zero_le _, ⟨h2, fun _ j hj => by rw [Nat.zero_add]; exact (h4 j hj).2⟩, fun j x hj => by rw [Nat.zero_add]; exact h3 j x hj⟩⟩
  · exact ⟨none, 0, rfl, fun _ _ => rfl, fun h => by simp at h⟩

/-- Objects: one, its rows in the sets T. -/
def OE (T : Nat → Nat → Prop) (w : World) (b o : Nat) (x : Ob) : Prop := ∃ v1, w.cell? ⟨b, o, none⟩ = some (.int .i64 x.cls) ∧ w.cell? ⟨b, o + 1, none⟩ = some v1 ∧ VZ (T 0) w v1 x.flds
theorem OE.moved {T : Nat → Nat → Prop} {u w : World} {b o : Nat} {x : Ob} (h : OE T u b o x) (hs : u.heap.size ≤ w.heap.size) (hg : w.heap[b]? = u.heap[b]?) (hb : ∀ j k, T j k → k < u.heap.size → w.heap[k]? = u.heap[k]?) : OE T w b o x := by
  obtain ⟨v1, c0, c1, z0⟩ := h
  exact ⟨v1, (World.cell?_of_block (w := u) hg).trans c0, (World.cell?_of_block (w := u) hg).trans c1, z0.moved hs (hb 0)⟩
/-- A row of them that a call has made: the row's block and all of theirs in S, all unlike. -/
def OZ (S : Nat → Prop) (w : World) (v : Value) (l : List Ob) : Prop :=
  (∃ g c, ∃ T : Nat → Nat → Nat → Prop, v = .slice (some ⟨g, 0, none⟩) l.length c ∧ S g ∧ g < w.heap.size ∧ Room w g (l.length * 2) ∧ (∀ i j k, T i j k → S k ∧ k ≠ g) ∧ (∀ i j i' j' k, T i j k → T i' j' k → i = i' ∧ j = j') ∧ ∀ i x, l[i]? = some x → OE (T i) w g (i * 2) x) ∨ (v = .slice none 0 0 ∧ l = [])
theorem OZ.moved {S : Nat → Prop} {u w : World} {v : Value} {l : List Ob} (h : OZ S u v l) (hs : u.heap.size ≤ w.heap.size) (hb : ∀ k, S k → k < u.heap.size → w.heap[k]? = u.heap[k]?) : OZ S w v l := by
  rcases h with ⟨g, c, T, hv, h1, h2, h3, h4, h5, h6⟩ | h
  · exact .inl ⟨g, c, T, hv, h1, Nat.lt_of_lt_of_le h2 hs, room_moved (hb g h1 h2) h3, h4, h5, fun i x hx => (h6 i x hx).moved hs (hb g h1 h2) fun j k hT hk => hb k (h4 i j k hT).1 hk⟩
  · exact .inr h
theorem OZ.on {S : Nat → Prop} {u w : World} {v : Value} {l : List Ob} (h : OZ S u v l) (hb : Below u.heap.size u w) : OZ S w v l := h.moved hb.size fun k _ hk => hb.block k hk
theorem OZ.tch {S T : Nat → Prop} {u w : World} {v : Value} {l : List Ob} (h : OZ S u v l) (ht : Tch T u w) (hd : ∀ k, S k → ¬ T k) : OZ S w v l := h.moved ht.size fun k hk hl => ht.far k hl (hd k hk)
theorem OZ.form {S : Nat → Prop} {w : World} {v : Value} {l : List Ob} (h : OZ S w v l) : ∃ a c, v = .slice a l.length c := by
  rcases h with ⟨g, c, _, hv, _⟩ | ⟨rfl, rfl⟩
  · exact ⟨_, c, hv⟩
  · exact ⟨none, 0, rfl⟩
theorem OZ.weak {S S' : Nat → Prop} {w : World} {v : Value} {l : List Ob} (h : OZ S w v l) (hs : ∀ k, S k → S' k) : OZ S' w v l := by
  rcases h with ⟨g, c, T, hv, h1, h2, h3, h4, h5⟩ | h
  · exact .inl ⟨g, c, T, hv, hs g h1, h2, h3, fun i j k hT => ⟨hs k (h4 i j k hT).1, (h4 i j k hT).2⟩, h5⟩
  · exact .inr h
theorem OZ.row {S : Nat → Prop} {w : World} {v : Value} {l : List Ob} (h : OZ S w v l) : SO true 0 w v l := by
  rcases h with ⟨g, c, T, rfl, h1, h2, h3, h4, h5, h6⟩ | ⟨rfl, rfl⟩
  · refine ⟨_, c, rfl, fun _ h => by simp at h, fun _ => ⟨g, 0, rfl, Nat.zero_le _, ⟨h2, fun _ j hj => by rw [Nat.zero_add]; exact (h3 j hj).2⟩, fun j x hj => ?_⟩⟩
    obtain ⟨v1, c0, c1, z0⟩ := h6 j x hj
    rw [Nat.zero_add]
    exact ⟨v1, c0, c1, z0.sv⟩
  · exact ⟨none, 0, rfl, fun _ _ => rfl, fun h => by simp at h⟩

/-- Frames: one, its rows in the sets T. -/
def FE (T : Nat → Nat → Prop) (w : World) (b o : Nat) (x : Fr) : Prop := ∃ v1 v2, w.cell? ⟨b, o, none⟩ = some (.int .i64 x.cls) ∧ w.cell? ⟨b, o + 1, none⟩ = some (.int .i64 x.name) ∧ w.cell? ⟨b, o + 2, none⟩ = some (.int .i64 x.pos) ∧ w.cell? ⟨b, o + 3, none⟩ = some v1 ∧ w.cell? ⟨b, o + 4, none⟩ = some v2 ∧ VZ (T 0) w v1 x.stk ∧ VZ (T 1) w v2 x.loc
theorem FE.moved {T : Nat → Nat → Prop} {u w : World} {b o : Nat} {x : Fr} (h : FE T u b o x) (hs : u.heap.size ≤ w.heap.size) (hg : w.heap[b]? = u.heap[b]?) (hb : ∀ j k, T j k → k < u.heap.size → w.heap[k]? = u.heap[k]?) : FE T w b o x := by
  obtain ⟨v1, v2, c0, c1, c2, c3, c4, z0, z1⟩ := h
  exact ⟨v1, v2, (World.cell?_of_block (w := u) hg).trans c0, (World.cell?_of_block (w := u) hg).trans c1, (World.cell?_of_block (w := u) hg).trans c2, (World.cell?_of_block (w := u) hg).trans c3, (World.cell?_of_block (w := u) hg).trans c4, z0.moved hs (hb 0), z1.moved hs (hb 1)⟩
/-- A row of them that a call has made: the row's block and all of theirs in S, all unlike. -/
def FZ (S : Nat → Prop) (w : World) (v : Value) (l : List Fr) : Prop :=
  (∃ g c, ∃ T : Nat → Nat → Nat → Prop, v = .slice (some ⟨g, 0, none⟩) l.length c ∧ S g ∧ g < w.heap.size ∧ Room w g (l.length * 5) ∧ (∀ i j k, T i j k → S k ∧ k ≠ g) ∧ (∀ i j i' j' k, T i j k → T i' j' k → i = i' ∧ j = j') ∧ ∀ i x, l[i]? = some x → FE (T i) w g (i * 5) x) ∨ (v = .slice none 0 0 ∧ l = [])
theorem FZ.moved {S : Nat → Prop} {u w : World} {v : Value} {l : List Fr} (h : FZ S u v l) (hs : u.heap.size ≤ w.heap.size) (hb : ∀ k, S k → k < u.heap.size → w.heap[k]? = u.heap[k]?) : FZ S w v l := by
  rcases h with ⟨g, c, T, hv, h1, h2, h3, h4, h5, h6⟩ | h
  · exact .inl ⟨g, c, T, hv, h1, Nat.lt_of_lt_of_le h2 hs, room_moved (hb g h1 h2) h3, h4, h5, fun i x hx => (h6 i x hx).moved hs (hb g h1 h2) fun j k hT hk => hb k (h4 i j k hT).1 hk⟩
  · exact .inr h
theorem FZ.on {S : Nat → Prop} {u w : World} {v : Value} {l : List Fr} (h : FZ S u v l) (hb : Below u.heap.size u w) : FZ S w v l := h.moved hb.size fun k _ hk => hb.block k hk
theorem FZ.tch {S T : Nat → Prop} {u w : World} {v : Value} {l : List Fr} (h : FZ S u v l) (ht : Tch T u w) (hd : ∀ k, S k → ¬ T k) : FZ S w v l := h.moved ht.size fun k hk hl => ht.far k hl (hd k hk)
theorem FZ.form {S : Nat → Prop} {w : World} {v : Value} {l : List Fr} (h : FZ S w v l) : ∃ a c, v = .slice a l.length c := by
  rcases h with ⟨g, c, _, hv, _⟩ | ⟨rfl, rfl⟩
  · exact ⟨_, c, hv⟩
  · exact ⟨none, 0, rfl⟩
theorem FZ.weak {S S' : Nat → Prop} {w : World} {v : Value} {l : List Fr} (h : FZ S w v l) (hs : ∀ k, S k → S' k) : FZ S' w v l := by
  rcases h with ⟨g, c, T, hv, h1, h2, h3, h4, h5⟩ | h
  · exact .inl ⟨g, c, T, hv, hs g h1, h2, h3, fun i j k hT => ⟨hs k (h4 i j k hT).1, (h4 i j k hT).2⟩, h5⟩
  · exact .inr h
theorem FZ.row {S : Nat → Prop} {w : World} {v : Value} {l : List Fr} (h : FZ S w v l) : SF true 0 w v l := by
  rcases h with ⟨g, c, T, rfl, h1, h2, h3, h4, h5, h6⟩ | ⟨rfl, rfl⟩
  · refine ⟨_, c, rfl, fun _ h => by simp at h, fun _ => ⟨g, 0, rfl, Nat.zero_le _, ⟨h2, fun _ j hj => by rw [Nat.zero_add]; exact (h3 j hj).2⟩, fun j x hj => ?_⟩⟩
    obtain ⟨v1, v2, c0, c1, c2, c3, c4, z0, z1⟩ := h6 j x hj
    rw [Nat.zero_add]
    exact ⟨v1, v2, c0, c1, c2, c3, c4, z0.sv, z1.sv⟩
  · exact ⟨none, 0, rfl, fun _ _ => rfl, fun h => by simp at h⟩

/-- A row of numbers that a call has made, its block in S; or nil. -/
def NZ (S : Nat → Prop) (w : World) (v : Value) (l : List Int) : Prop :=
  (∃ g c, v = .slice (some ⟨g, 0, none⟩) l.length c ∧ S g ∧ g < w.heap.size ∧ IRow w g 0 l ∧ Room w g l.length) ∨ (v = .slice none 0 0 ∧ l = [])
theorem NZ.moved {S : Nat → Prop} {u w : World} {v : Value} {l : List Int} (h : NZ S u v l) (hs : u.heap.size ≤ w.heap.size) (hb : ∀ k, S k → k < u.heap.size → w.heap[k]? = u.heap[k]?) : NZ S w v l := by
  rcases h with ⟨g, c, hv, h1, h2, h3, h4⟩ | h
  · have e := hb g h1 h2
    exact .inl ⟨g, c, hv, h1, Nat.lt_of_lt_of_le h2 hs, fun j x hj => (World.cell?_of_block (w := u) e).trans (h3 j x hj), room_moved e h4⟩
  · exact .inr h
theorem NZ.on {S : Nat → Prop} {u w : World} {v : Value} {l : List Int} (h : NZ S u v l) (hb : Below u.heap.size u w) : NZ S w v l := h.moved hb.size fun k _ hk => hb.block k hk
theorem NZ.tch {S T : Nat → Prop} {u w : World} {v : Value} {l : List Int} (h : NZ S u v l) (ht : Tch T u w) (hd : ∀ k, S k → ¬ T k) : NZ S w v l := h.moved ht.size fun k hk hl => ht.far k hl (hd k hk)
theorem NZ.form {S : Nat → Prop} {w : World} {v : Value} {l : List Int} (h : NZ S w v l) : ∃ a c, v = .slice a l.length c := by
  rcases h with ⟨g, c, hv, _⟩ | ⟨rfl, rfl⟩
  · exact ⟨_, c, hv⟩
  · exact ⟨none, 0, rfl⟩
theorem NZ.si {S : Nat → Prop} {w : World} {v : Value} {l : List Int} (h : NZ S w v l) : SI true 0 w v l := by
  rcases h with ⟨g, c, rfl, h1, h2, h3, h4⟩ | ⟨rfl, rfl⟩
  · exact SI.row (Nat.zero_le _) h2 h3 h4
  · exact SI.nil _ _ _
/-- A machine that a call has made. -/
def MZ (S : Nat → Prop) (w : World) (vh vf vs : Value) (m : Mc) : Prop := ∃ S1 S2 S3 : Nat → Prop, (∀ k, S1 k → S k) ∧ (∀ k, S2 k → S k) ∧ (∀ k, S3 k → S k) ∧ (∀ k, S1 k → ¬ S2 k) ∧ (∀ k, S1 k → ¬ S3 k) ∧ (∀ k, S2 k → ¬ S3 k) ∧ OZ S1 w vh m.heap ∧ FZ S2 w vf m.frames ∧ NZ S3 w vs m.said
theorem MZ.moved {S : Nat → Prop} {u w : World} {vh vf vs : Value} {m : Mc} (h : MZ S u vh vf vs m) (hs : u.heap.size ≤ w.heap.size) (hb : ∀ k, S k → k < u.heap.size → w.heap[k]? = u.heap[k]?) : MZ S w vh vf vs m := by
  obtain ⟨S1, S2, S3, i1, i2, i3, d1, d2, d3, h1, h2, h3⟩ := h
  exact ⟨S1, S2, S3, i1, i2, i3, d1, d2, d3, h1.moved hs fun k hk => hb k (i1 k hk), h2.moved hs fun k hk => hb k (i2 k hk), h3.moved hs fun k hk => hb k (i3 k hk)⟩
theorem MZ.on {S : Nat → Prop} {u w : World} {vh vf vs : Value} {m : Mc} (h : MZ S u vh vf vs m) (hb : Below u.heap.size u w) : MZ S w vh vf vs m := h.moved hb.size fun k _ hk => hb.block k hk
theorem MZ.tch {S T : Nat → Prop} {u w : World} {vh vf vs : Value} {m : Mc} (h : MZ S u vh vf vs m) (ht : Tch T u w) (hd : ∀ k, S k → ¬ T k) : MZ S w vh vf vs m := h.moved ht.size fun k hk hl => ht.far k hl (hd k hk)
theorem MZ.mrk {S : Nat → Prop} {C1 C2 : Nat} {u w : World} {vh vf vs : Value} {m : Mc} (h : MZ S u vh vf vs m) (hm : Mrk C1 C2 u w) (hd : ∀ k, S k → k < C1 ∨ C2 ≤ k) : MZ S w vh vf vs m := h.moved hm.size fun k hk hl => hm.far k hl (hd k hk)
theorem MZ.weak {S S' : Nat → Prop} {w : World} {vh vf vs : Value} {m : Mc} (h : MZ S w vh vf vs m) (hs : ∀ k, S k → S' k) : MZ S' w vh vf vs m := by
  obtain ⟨S1, S2, S3, i1, i2, i3, r⟩ := h
  exact ⟨S1, S2, S3, fun k hk => hs k (i1 k hk), fun k hk => hs k (i2 k hk), fun k hk => hs k (i3 k hk), r⟩
theorem MZ.kv {S : Nat → Prop} {w : World} {vh vf vs : Value} {m : Mc} (h : MZ S w vh vf vs m) : KV true 0 w vh vf vs m := by
  obtain ⟨S1, S2, S3, _, _, _, _, _, _, h1, h2, h3⟩ := h
  exact ⟨h1.row, h2.row, h3.si⟩
theorem MZ.form {S : Nat → Prop} {w : World} {vh vf vs : Value} {m : Mc} (h : MZ S w vh vf vs m) : (∃ a c, vh = .slice a m.heap.length c) ∧ (∃ a c, vf = .slice a m.frames.length c) ∧ ∃ a c, vs = .slice a m.said.length c := by
  obtain ⟨S1, S2, S3, _, _, _, _, _, _, h1, h2, h3⟩ := h
  exact ⟨h1.form, h2.form, h3.form⟩
end Pg
end Go.Proofs.Ytffkkhaiedhaiaa

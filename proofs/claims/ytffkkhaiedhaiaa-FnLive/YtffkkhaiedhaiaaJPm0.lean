/- Rows of steps that a call has made. -/
import Derived.Test.YtffkkhaiedhaiaaJLay
import Derived.Test.YtffkkhaiedhaiaaJPf0
import Derived.Laws.AppendOwnNone
import Derived.Lib.SliceRun
import Derived.Test.YtffkkhaiedhaiaaJMv1
namespace Go.Proofs.Ytffkkhaiedhaiaa
namespace St
open Go.ChangeShapes Go.WideShapes Go.ChangeAt Go.RowKit

/-- The cells of steps, one behind the other. -/
def flat (l : List Tx.Ins) : List Value := l.flatMap fun x => [.int .i64 x.1, .int .i64 x.2.1, .int .i64 x.2.2]
theorem flat_at (l : List Tx.Ins) : ∀ (j : Nat) (x : Tx.Ins), l[j]? = some x → (flat l)[j * 3]? = some (.int .i64 x.1) ∧ (flat l)[j * 3 + 1]? = some (.int .i64 x.2.1) ∧ (flat l)[j * 3 + 2]? = some (.int .i64 x.2.2) := by
  induction l with
  | nil => intro j x h; simp at h
  | cons y l ih =>
    intro j x h
    have e : flat (y :: l) = .int .i64 y.1 :: .int .i64 y.2.1 :: .int .i64 y.2.2 :: flat l := by simp [flat]
    rw [e]
    cases j with
    | zero => simp at h; subst h; exact ⟨rfl, rfl, rfl⟩
    | succ j =>
      have h' : l[j]? = some x := by simpa using h
      have := ih j x h'
      have e3 : (j + 1) * 3 = j * 3 + 3 := by omega
      rw [e3]
      simpa using this

/-- A row of steps that the call has made: the slice, its steps, room to write. -/
def Got (B : Nat) (w : World) (v : Value) (l : List Tx.Ins) : Prop :=
  ∃ g cap, v = .slice (some ⟨g, 0, none⟩) l.length cap ∧ B ≤ g ∧ g < w.heap.size ∧ Row w g 0 l ∧ Room w g (l.length * 3)
theorem got_of {w : World} {B : Nat} {e : TypeId} {v : Value} {l : List Tx.Ins} (h : w.ownsRow B e 3 v l.length (flat l)) (hv : v ≠ .slice none 0 0) : Got B w v l := by
  have hc := @World.ownsRow.cells w B e 3 v l.length (flat l) h
  have hl := @World.ownsRow.lt w B e 3 v l.length (flat l) h
  have h' := h
  obtain ⟨_, ⟨h, _⟩ | ⟨g, cap, cur, rfl, hB, _, hcap, _⟩⟩ := h
  · exact absurd h hv
  · refine ⟨g, cap, rfl, hB, (hl g rfl).2, fun j x hj => ?_, room_own h' hcap⟩
    obtain ⟨f0, f1, f2⟩ := flat_at l j x hj
    have g0 := hc (g := g) rfl _ _ f0
    have g1 := hc (g := g) rfl _ _ f1
    have g2 := hc (g := g) rfl _ _ f2
    simp only [Go.WideShapes.add_plain] at g0 g1 g2
    exact ⟨g0, by simpa [Nat.add_assoc] using g1, by simpa [Nat.add_assoc] using g2⟩
theorem Got.on {B : Nat} {u w : World} {v : Value} {l : List Tx.Ins} (h : Got B u v l) (hb : Below u.heap.size u w) : Got B w v l := by
  obtain ⟨g, cap, hv, h1, h2, h3, h4⟩ := h
  exact ⟨g, cap, hv, h1, Nat.lt_of_lt_of_le h2 hb.size, h3.on hb, h4.on hb⟩
theorem own_base {w : World} {B B' : Nat} {e : TypeId} {q n : Nat} {x : Value} {xs : List Value} (h : w.ownsRow B e q x n xs) (hB : B' ≤ B) : w.ownsRow B' e q x n xs := by
  obtain ⟨q1, q2 | ⟨g1, c1, cur1, q3, q4, q5⟩⟩ := h
  · exact ⟨q1, Or.inl q2⟩
  · exact ⟨q1, Or.inr ⟨g1, c1, cur1, q3, Nat.le_trans hB q4, q5⟩⟩
/-- The cells of steps, where they lie. -/
theorem flat_len (l : List Tx.Ins) : (flat l).length = l.length * 3 := by
  induction l with
  | nil => rfl
  | cons x l ih => have e : flat (x :: l) = .int .i64 x.1 :: .int .i64 x.2.1 :: .int .i64 x.2.2 :: flat l := by simp [flat]
                   rw [e]; simp [ih]; omega
theorem flat_append (l r : List Tx.Ins) : flat (l ++ r) = flat l ++ flat r := by simp [flat]
theorem flat_one (l : List Tx.Ins) : ∀ u ∈ flat l, u.oneCell' = true := by
  intro u hu
  obtain ⟨x, _, hx⟩ := List.mem_flatMap.1 hu
  simp at hx
  rcases hx with rfl | rfl | rfl <;> rfl
theorem flat_get {l : List Tx.Ins} {j : Nat} {u : Value} (h : (flat l)[j]? = some u) : ∃ x, l[j / 3]? = some x ∧ ((j % 3 = 0 ∧ u = .int .i64 x.1) ∨ (j % 3 = 1 ∧ u = .int .i64 x.2.1) ∨ (j % 3 = 2 ∧ u = .int .i64 x.2.2)) := by
  have hj : j < (flat l).length := (List.getElem?_eq_some_iff.1 h).1
  rw [flat_len] at hj
  have hq : j / 3 < l.length := by omega
  refine ⟨l[j / 3], List.getElem?_eq_getElem hq, ?_⟩
  obtain ⟨f0, f1, f2⟩ := flat_at l (j / 3) _ (List.getElem?_eq_getElem hq)
  have hm : j % 3 = 0 ∨ j % 3 = 1 ∨ j % 3 = 2 := by omega
  rcases hm with hm | hm | hm
  · refine .inl ⟨hm, ?_⟩
    have e : j / 3 * 3 = j := by omega
    rw [e, h] at f0; exact Option.some.inj f0
  · refine .inr (.inl ⟨hm, ?_⟩)
    have e : j / 3 * 3 + 1 = j := by omega
    rw [e, h] at f1; exact Option.some.inj f1
  · refine .inr (.inr ⟨hm, ?_⟩)
    have e : j / 3 * 3 + 2 = j := by omega
    rw [e, h] at f2; exact Option.some.inj f2
theorem Row.flat {w : World} {g o : Nat} {l : List Tx.Ins} (h : Row w g o l) : ∀ j u, (flat l)[j]? = some u → w.cell? ((⟨g, o, none⟩ : Addr).add j) = some u := by
  intro j u hu
  obtain ⟨x, hx, hh⟩ := flat_get hu
  obtain ⟨h0, h1, h2⟩ := h _ _ hx
  rw [Go.WideShapes.add_plain]
  rcases hh with ⟨hm, rfl⟩ | ⟨hm, rfl⟩ | ⟨hm, rfl⟩
  · have e : o + j / 3 * 3 = o + j := by omega
    rw [e] at h0; exact h0
  · have e : o + j / 3 * 3 + 1 = o + j := by omega
    rw [e] at h1; exact h1
  · have e : o + j / 3 * 3 + 2 = o + j := by omega
    rw [e] at h2; exact h2
/-- A literal of steps. -/
theorem got_lit (w : World) (B : Nat) (hB : B ≤ w.heap.size) (l : List Tx.Ins) (cap : Nat) (t : TypeId) (cs : Array Value) (hcs : cs = (flat l).toArray) : Got B (w.alloc (.cells cs t)) (.slice (some ⟨w.heap.size, 0, none⟩) l.length cap) l := by
  subst hcs
  have hc : ∀ j u, (flat l)[j]? = some u → (w.alloc (.cells (flat l).toArray t)).cell? ⟨w.heap.size, j, none⟩ = some u := by
    intro j u hu
    simp [go_sem, hu]
  refine ⟨w.heap.size, cap, rfl, hB, by simp, fun j x hj => ?_, fun i hi => ?_⟩
  · obtain ⟨f0, f1, f2⟩ := flat_at l j x hj
    rw [Nat.zero_add]
    exact ⟨hc _ _ f0, hc _ _ f1, hc _ _ f2⟩
  · have : i < (flat l).length := by rw [flat_len]; exact hi
    exact ⟨⟨_, hc i _ (List.getElem?_eq_getElem this)⟩, by simp [go_sem]⟩
theorem Got.base {B B' : Nat} {w : World} {v : Value} {l : List Tx.Ins} (h : Got B w v l) (hB : B' ≤ B) : Got B' w v l := by
  obtain ⟨g, cap, hv, h1, h2, h3, h4⟩ := h
  exact ⟨g, cap, hv, Nat.le_trans hB h1, h2, h3, h4⟩
end St
end Go.Proofs.Ytffkkhaiedhaiaa

/- Contracts of both sides' copying of methods. -/
namespace Go.Proofs.Ytffkkhaiedhaiaa
namespace Pg
open Go.ChangeShapes Go.WideShapes Go.ChangeAt Go.RowKit St

/-- A row of numbers of its own, in a block from B1 on and below B2, or nil. -/
def GZ (B1 B2 : Nat) (w : World) (v : Value) (l : List Int) : Prop := (∃ g c, v = .slice (some ⟨g, 0, none⟩) l.length c ∧ B1 ≤ g ∧ g < B2 ∧ g < w.heap.size ∧ IRow w g 0 l ∧ Room w g l.length) ∨ (v = .slice none 0 0 ∧ l = [])
/-- A row of steps of its own, in a block from B1 on and below B2, or nil. -/
def CZ (B1 B2 : Nat) (w : World) (v : Value) (l : List Tx.Ins) : Prop := (∃ g c, v = .slice (some ⟨g, 0, none⟩) l.length c ∧ B1 ≤ g ∧ g < B2 ∧ g < w.heap.size ∧ Row w g 0 l ∧ Room w g (l.length * 3)) ∨ (v = .slice none 0 0 ∧ l = [])
theorem room_moved {u w : World} {g n : Nat} (hg : w.heap[g]? = u.heap[g]?) (h : Room u g n) : Room w g n := fun i hi => by
  obtain ⟨⟨x, hx⟩, hf⟩ := h i hi
  exact ⟨⟨x, (World.cell?_of_block (w := u) hg).trans hx⟩, (World.frozen?_of_block (w := u) hg).trans hf⟩
theorem GZ.moved {B1 B2 : Nat} {u w : World} {v : Value} {l : List Int} (h : GZ B1 B2 u v l) (hs : u.heap.size ≤ w.heap.size) (hb : ∀ k, B1 ≤ k → k < B2 → k < u.heap.size → w.heap[k]? = u.heap[k]?) : GZ B1 B2 w v l := by
  rcases h with ⟨g, c, hv, h1, h2, h3, h4, h5⟩ | h
  · have hg := hb g h1 h2 h3
    exact .inl ⟨g, c, hv, h1, h2, by omega, fun j x hj => (World.cell?_of_block (w := u) hg).trans (h4 j x hj), room_moved hg h5⟩
  · exact .inr h
theorem CZ.moved {B1 B2 : Nat} {u w : World} {v : Value} {l : List Tx.Ins} (h : CZ B1 B2 u v l) (hs : u.heap.size ≤ w.heap.size) (hb : ∀ k, B1 ≤ k → k < B2 → k < u.heap.size → w.heap[k]? = u.heap[k]?) : CZ B1 B2 w v l := by
  rcases h with ⟨g, c, hv, h1, h2, h3, h4, h5⟩ | h
  · have hg := hb g h1 h2 h3
    exact .inl ⟨g, c, hv, h1, h2, by omega, fun j x hj => by
      obtain ⟨c0, c1, c2⟩ := h4 j x hj
      exact ⟨(World.cell?_of_block (w := u) hg).trans c0, (World.cell?_of_block (w := u) hg).trans c1, (World.cell?_of_block (w := u) hg).trans c2⟩, room_moved hg h5⟩
  · exact .inr h
theorem GZ.keep {B B1 B2 : Nat} {u w : World} {v : Value} {l : List Int} (h : GZ B1 B2 u v l) (hk : Keep B u w) (hB : B ≤ B1) : GZ B1 B2 w v l := h.moved hk.size fun k h1 _ hl => hk.block k (by omega) hl
theorem CZ.keep {B B1 B2 : Nat} {u w : World} {v : Value} {l : List Tx.Ins} (h : CZ B1 B2 u v l) (hk : Keep B u w) (hB : B ≤ B1) : CZ B1 B2 w v l := h.moved hk.size fun k h1 _ hl => hk.block k (by omega) hl
theorem GZ.low {B B1 B2 : Nat} {u w : World} {v : Value} {l : List Int} (h : GZ B1 B2 u v l) (hk : Below B u w) (hB : B2 ≤ B) : GZ B1 B2 w v l := h.moved hk.size fun k _ h2 _ => hk.block k (by omega)
theorem CZ.low {B B1 B2 : Nat} {u w : World} {v : Value} {l : List Tx.Ins} (h : CZ B1 B2 u v l) (hk : Below B u w) (hB : B2 ≤ B) : CZ B1 B2 w v l := h.moved hk.size fun k _ h2 _ => hk.block k (by omega)
theorem GZ.on {B1 B2 : Nat} {u w : World} {v : Value} {l : List Int} (h : GZ B1 B2 u v l) (hk : Below u.heap.size u w) : GZ B1 B2 w v l := h.moved hk.size fun k _ _ h3 => hk.block k h3
theorem CZ.on {B1 B2 : Nat} {u w : World} {v : Value} {l : List Tx.Ins} (h : CZ B1 B2 u v l) (hk : Below u.heap.size u w) : CZ B1 B2 w v l := h.moved hk.size fun k _ _ h3 => hk.block k h3
theorem GZ.weak {B1 B2 C1 C2 : Nat} {w : World} {v : Value} {l : List Int} (h : GZ B1 B2 w v l) (h1 : C1 ≤ B1) (h2 : B2 ≤ C2) : GZ C1 C2 w v l := by
  rcases h with ⟨g, c, hv, k1, k2, h3, h4, h5⟩ | h
  · exact .inl ⟨g, c, hv, by omega, by omega, h3, h4, h5⟩
  · exact .inr h
theorem CZ.weak {B1 B2 C1 C2 : Nat} {w : World} {v : Value} {l : List Tx.Ins} (h : CZ B1 B2 w v l) (h1 : C1 ≤ B1) (h2 : B2 ≤ C2) : CZ C1 C2 w v l := by
  rcases h with ⟨g, c, hv, k1, k2, h3, h4, h5⟩ | h
  · exact .inl ⟨g, c, hv, by omega, by omega, h3, h4, h5⟩
  · exact .inr h
theorem GZ.form {B1 B2 : Nat} {w : World} {v : Value} {l : List Int} (h : GZ B1 B2 w v l) : ∃ a c, v = .slice a l.length c := by
  rcases h with ⟨g, c, hv, _⟩ | ⟨hv, hl⟩
  · exact ⟨_, _, hv⟩
  · subst hl; exact ⟨_, _, hv⟩
theorem CZ.form {B1 B2 : Nat} {w : World} {v : Value} {l : List Tx.Ins} (h : CZ B1 B2 w v l) : ∃ a c, v = .slice a l.length c := by
  rcases h with ⟨g, c, hv, _⟩ | ⟨hv, hl⟩
  · exact ⟨_, _, hv⟩
  · subst hl; exact ⟨_, _, hv⟩
theorem GZ.of {B : Nat} {w : World} {v : Value} {l : List Int} (h : GInt B w v l) : GZ B w.heap.size w v l := by
  obtain ⟨g, c, hv, h1, h2, h3, h4⟩ := h
  exact .inl ⟨g, c, hv, h1, h2, h2, h3, h4⟩
theorem CZ.of {B : Nat} {w : World} {v : Value} {l : List Tx.Ins} (h : CS B w v l) : CZ B w.heap.size w v l := by
  obtain ⟨g, c, hv, h1, h2, h3, h4⟩ := h
  exact .inl ⟨g, c, hv, h1, h2, h2, h3, h4⟩
theorem GZ.si {B1 B2 : Nat} {w : World} {v : Value} {l : List Int} (h : GZ B1 B2 w v l) : SI true B1 w v l := by
  rcases h with ⟨g, c, rfl, h1, _, h2, h3, h4⟩ | ⟨rfl, rfl⟩
  · exact SI.row h1 h2 h3 h4
  · exact SI.nil _ _ _
/-- A method that a call has made: its rows in blocks of their own. -/
def AnsM (B : Nat) (w : World) (va vc : Value) (m : Meth) : Prop := ∃ M, B ≤ M ∧ M ≤ w.heap.size ∧ GZ B M w va m.args ∧ CZ M w.heap.size w vc m.code

theorem AnsM.keep {B C : Nat} {u w : World} {va vc : Value} {m : Meth} (h : AnsM B u va vc m) (hk : Keep C u w) (hB : C ≤ B) : AnsM B w va vc m := by
  obtain ⟨M, h1, h2, h3, h4⟩ := h
  exact ⟨M, h1, Nat.le_trans h2 hk.size, h3.keep hk hB, (h4.keep hk (Nat.le_trans hB h1)).weak (Nat.le_refl _) hk.size⟩
theorem AnsM.weak {B C : Nat} {w : World} {va vc : Value} {m : Meth} (h : AnsM B w va vc m) (hB : C ≤ B) : AnsM C w va vc m := by
  obtain ⟨M, h1, h2, h3, h4⟩ := h
  exact ⟨M, Nat.le_trans hB h1, h2, h3.weak hB (Nat.le_refl _), h4⟩

end Pg
end Go.Proofs.Ytffkkhaiedhaiaa

/- Contracts of the laws' own marking of programs: what it leaves alone. -/
namespace Go.Proofs.Ytffkkhaiedhaiaa
namespace Pg
open Go.ChangeShapes Go.WideShapes Go.ChangeAt Go.RowKit St

/-- From u to v numbers alone have turned, in blocks from B1 on and below B2. -/
structure Mrk (B1 B2 : Nat) (u v : World) : Prop where
  os : v.os = u.os
  tape : v.tape = u.tape
  output : v.output = u.output
  size : u.heap.size ≤ v.heap.size
  far : ∀ k, k < u.heap.size → (k < B1 ∨ B2 ≤ k) → v.heap[k]? = u.heap[k]?
  cell : ∀ p : Addr, p.block < u.heap.size → v.cell? p = u.cell? p ∨ ((∃ x, u.cell? p = some (.int .i64 x)) ∧ ∃ y, v.cell? p = some (.int .i64 y))
  frz : ∀ p : Addr, p.block < u.heap.size → v.frozen? p = u.frozen? p
theorem Mrk.refl (B1 B2 : Nat) (u : World) : Mrk B1 B2 u u := ⟨rfl, rfl, rfl, Nat.le_refl _, fun _ _ _ => rfl, fun _ _ => .inl rfl, fun _ _ => rfl⟩
theorem Mrk.trans {B1 B2 : Nat} {u v w : World} (h : Mrk B1 B2 u v) (k : Mrk B1 B2 v w) : Mrk B1 B2 u w :=
  ⟨k.os.trans h.os, k.tape.trans h.tape, k.output.trans h.output, Nat.le_trans h.size k.size, fun i hi hf => (k.far i (Nat.lt_of_lt_of_le hi h.size) hf).trans (h.far i hi hf), fun p hp => by
    have hp' := Nat.lt_of_lt_of_le hp h.size
    rcases h.cell p hp with h1 | ⟨h1, y, h2⟩
    · rcases k.cell p hp' with k1 | ⟨⟨x, k1⟩, k2⟩
      · exact .inl (k1.trans h1)
      · exact .inr ⟨⟨x, h1 ▸ k1⟩, k2⟩
    · rcases k.cell p hp' with k1 | ⟨_, k2⟩
      · exact .inr ⟨h1, y, k1.trans h2⟩
      · exact .inr ⟨h1, k2⟩, fun p hp => (k.frz p (Nat.lt_of_lt_of_le hp h.size)).trans (h.frz p hp)⟩
theorem Mrk.set {B1 B2 : Nat} (u : World) {p : Addr} (h1 : B1 ≤ p.block) (h2 : p.block < B2) {x : Int} (hx : u.cell? p = some (.int .i64 x)) (y : Int) : Mrk B1 B2 u (u.setCell p (.int .i64 y)) := by
  have hb := (Below.refl 0 u).setCell (p := p) (Nat.zero_le _) (.int .i64 y)
  refine ⟨hb.os, hb.tape, hb.output, hb.size, fun k _ hf => Below.heap_setCell u p _ k (by omega), fun q hq => ?_, fun q _ => by simp⟩
  by_cases e : p = q
  · subst e
    exact .inr ⟨⟨x, hx⟩, y, World.cell?_setCell_same _ _ _ hx⟩
  · exact .inl (World.cell?_setCell_other _ _ _ _ e)
theorem Mrk.of {B1 B2 : Nat} {u v : World} (h : Below u.heap.size u v) : Mrk B1 B2 u v :=
  ⟨h.os, h.tape, h.output, h.size, fun k hk _ => h.block k hk, fun _ hp => .inl (h.cell hp), fun _ hp => h.frozen hp⟩
theorem Mrk.below {B1 B2 B : Nat} {u v : World} (h : Mrk B1 B2 u v) (hB : B ≤ B1) (hu : B ≤ u.heap.size) : Below B u v :=
  ⟨h.os, h.tape, h.output, h.size, fun k hk => h.far k (by omega) (.inl (by omega))⟩
theorem Mrk.keep {B1 B2 : Nat} {u v : World} (h : Mrk B1 B2 u v) : Keep B2 u v := ⟨h.size, fun k hk hl => h.far k hl (.inr hk)⟩
theorem Mrk.slice {B1 B2 : Nat} {u v : World} (h : Mrk B1 B2 u v) {p : Addr} {a : Option Addr} {n c : Nat} (hp : u.cell? p = some (.slice a n c)) : v.cell? p = some (.slice a n c) := by
  rcases h.cell p (cell_lt hp) with h1 | ⟨⟨x, h1⟩, _⟩
  · exact h1.trans hp
  · rw [hp] at h1; simp at h1
theorem Mrk.int {B1 B2 : Nat} {u v : World} (h : Mrk B1 B2 u v) {p : Addr} {x : Int} (hp : u.cell? p = some (.int .i64 x)) : ∃ y, v.cell? p = some (.int .i64 y) := by
  rcases h.cell p (cell_lt hp) with h1 | ⟨_, h2⟩
  · exact ⟨x, h1.trans hp⟩
  · exact h2
/-- A number that may be written. -/
def NumW (w : World) (p : Addr) : Prop := (∃ x, w.cell? p = some (.int .i64 x)) ∧ w.frozen? p = false
theorem NumW.mrk {B1 B2 : Nat} {u v : World} {p : Addr} (h : NumW u p) (hm : Mrk B1 B2 u v) : NumW v p := by
  obtain ⟨⟨x, hx⟩, hf⟩ := h
  exact ⟨hm.int hx, (hm.frz p (cell_lt hx)).trans hf⟩
/-- A slice of n elements, each of sz numbers that may be written, in blocks from B1 on and below B2. -/
def ShN (sz B1 B2 : Nat) (w : World) (v : Value) (n : Nat) : Prop :=
  ∃ a cap, v = .slice a n cap ∧ (0 < n → ∃ b o, a = some ⟨b, o, none⟩ ∧ B1 ≤ b ∧ b < B2 ∧ ∀ j, j < n * sz → NumW w ⟨b, o + j, none⟩)
theorem ShN.mrk {sz B1 B2 : Nat} {u v : World} {x : Value} {n : Nat} (h : ShN sz B1 B2 u x n) (hm : Mrk B1 B2 u v) : ShN sz B1 B2 v x n := by
  obtain ⟨a, cap, hv, h⟩ := h
  refine ⟨a, cap, hv, fun h0 => ?_⟩
  obtain ⟨b, o, ha, h1, h2, h3⟩ := h h0
  exact ⟨b, o, ha, h1, h2, fun j hj => (h3 j hj).mrk hm⟩
theorem ShN.form {sz B1 B2 : Nat} {u : World} {x : Value} {n : Nat} (h : ShN sz B1 B2 u x n) : ∃ a cap, x = .slice a n cap := by
  obtain ⟨a, cap, hv, _⟩ := h
  exact ⟨a, cap, hv⟩
def ShMat (B1 B2 : Nat) (w : World) (b o : Nat) (m : Meth) : Prop :=
  ∃ va vc, NumW w ⟨b, o, none⟩ ∧ w.cell? ⟨b, o + 1, none⟩ = some va ∧ NumW w ⟨b, o + 2, none⟩ ∧ w.cell? ⟨b, o + 3, none⟩ = some vc ∧ ShN 1 B1 B2 w va m.args.length ∧ ShN 3 B1 B2 w vc m.code.length
theorem ShMat.mrk {B1 B2 : Nat} {u v : World} {b o : Nat} {m : Meth} (h : ShMat B1 B2 u b o m) (hm : Mrk B1 B2 u v) : ShMat B1 B2 v b o m := by
  obtain ⟨va, vc, h0, h1, h2, h3, h4, h5⟩ := h
  obtain ⟨a1, c1, rfl⟩ := h4.form
  obtain ⟨a2, c2, rfl⟩ := h5.form
  exact ⟨_, _, h0.mrk hm, hm.slice h1, h2.mrk hm, hm.slice h3, h4.mrk hm, h5.mrk hm⟩
def ShM (B1 B2 : Nat) (w : World) (v : Value) (l : List Meth) : Prop :=
  ∃ a cap, v = .slice a l.length cap ∧ (0 < l.length → ∃ b o, a = some ⟨b, o, none⟩ ∧ B1 ≤ b ∧ b < B2 ∧ ∀ j x, l[j]? = some x → ShMat B1 B2 w b (o + j * 4) x)
theorem ShM.mrk {B1 B2 : Nat} {u v : World} {x : Value} {l : List Meth} (h : ShM B1 B2 u x l) (hm : Mrk B1 B2 u v) : ShM B1 B2 v x l := by
  obtain ⟨a, cap, hv, h⟩ := h
  refine ⟨a, cap, hv, fun h0 => ?_⟩
  obtain ⟨b, o, ha, h1, h2, h3⟩ := h h0
  exact ⟨b, o, ha, h1, h2, fun j y hj => (h3 j y hj).mrk hm⟩
theorem ShM.form {B1 B2 : Nat} {u : World} {x : Value} {l : List Meth} (h : ShM B1 B2 u x l) : ∃ a cap, x = .slice a l.length cap := by
  obtain ⟨a, cap, hv, _⟩ := h
  exact ⟨a, cap, hv⟩
def ShKat (B1 B2 : Nat) (w : World) (b o : Nat) (c : Cls) : Prop :=
  ∃ vf vm, NumW w ⟨b, o, none⟩ ∧ w.cell? ⟨b, o + 1, none⟩ = some vf ∧ w.cell? ⟨b, o + 2, none⟩ = some vm ∧ ShN 1 B1 B2 w vf c.fields.length ∧ ShM B1 B2 w vm c.meths
theorem ShKat.mrk {B1 B2 : Nat} {u v : World} {b o : Nat} {c : Cls} (h : ShKat B1 B2 u b o c) (hm : Mrk B1 B2 u v) : ShKat B1 B2 v b o c := by
  obtain ⟨va, vc, h0, h1, h3, h4, h5⟩ := h
  obtain ⟨a1, c1, rfl⟩ := h4.form
  obtain ⟨a2, c2, rfl⟩ := h5.form
  exact ⟨_, _, h0.mrk hm, hm.slice h1, hm.slice h3, h4.mrk hm, h5.mrk hm⟩
def ShK (B1 B2 : Nat) (w : World) (v : Value) (l : Prg) : Prop :=
  ∃ a cap, v = .slice a l.length cap ∧ (0 < l.length → ∃ b o, a = some ⟨b, o, none⟩ ∧ B1 ≤ b ∧ b < B2 ∧ ∀ j x, l[j]? = some x → ShKat B1 B2 w b (o + j * 3) x)
theorem ShK.mrk {B1 B2 : Nat} {u v : World} {x : Value} {l : Prg} (h : ShK B1 B2 u x l) (hm : Mrk B1 B2 u v) : ShK B1 B2 v x l := by
  obtain ⟨a, cap, hv, h⟩ := h
  refine ⟨a, cap, hv, fun h0 => ?_⟩
  obtain ⟨b, o, ha, h1, h2, h3⟩ := h h0
  exact ⟨b, o, ha, h1, h2, fun j y hj => (h3 j y hj).mrk hm⟩

end Pg
end Go.Proofs.Ytffkkhaiedhaiaa

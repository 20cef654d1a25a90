/- Rows of steps that a call has made. -/
import Derived.Test.YtdomclicgajihaaJRow2
import Derived.Test.YtdomclicgajihaaJPf0
import Derived.Laws.AppendOwnNone
import Derived.Lib.SliceRun
import Derived.Test.YtdomclicgajihaaJPg3
namespace Go.Proofs.Ytdomclicgajihaa
namespace St
open Go.ChangeShapes Go.WideShapes Go.ChangeAt Go.RowKit

/-- The cells of steps, one behind the other. -/
def flat (l : List Tx.Ins) : List Value := l.flatMap fun x => [.int .i64 x.1, .int .i64 x.2.1, .int .i64 x.2.2]
theorem flat_snoc (l : List Tx.Ins) (x : Tx.Ins) : flat (l ++ [x]) = flat l ++ [.int .i64 x.1, .int .i64 x.2.1, .int .i64 x.2.2] := by simp [flat]
theorem flat_at (l : List Tx.Ins) : ∀ (j : Nat) (x : Tx.Ins), l[j]? = some x → (flat l)[j * 3]? = some (.int .i64 x.1) ∧ (flat l)[j * 3 + 1]? = some (.int .i64 x.2.1) ∧ (flat l)[j * 3 + 2]? = some (.int .i64 x.2.2) := by
  induction l with
  | nil => intro j x h; simp at h
  | cons y l ih =>
    intro j x h
    have e : flat (y :: l) = .int .i64 y.1 :: .int .i64 y.2.1 :: .int .i64 y.2.2 :: flat l := by simp [flat]
    rw [e]
    cases j with
    | zero => simp at h; subst h; exact ⟨rfl, rfl, rfl⟩
    | succ j =>
      have h' : l[j]? = some x := by simpa using h
      have := ih j x h'
      have e3 : (j + 1) * 3 = j * 3 + 3 := by omega
      rw [e3]
      simpa using this

/-- A row of steps that the call has made: the slice, its steps, room to write. -/
def Got (B : Nat) (w : World) (v : Value) (l : List Tx.Ins) : Prop :=
  ∃ g cap, v = .slice (some ⟨g, 0, none⟩) l.length cap ∧ B ≤ g ∧ g < w.heap.size ∧ Row w g 0 l ∧ Room w g (l.length * 3)
theorem got_of {w : World} {B : Nat} {e : TypeId} {v : Value} {l : List Tx.Ins} (h : w.ownsRow B e 3 v l.length (flat l)) (hv : v ≠ .slice none 0 0) : Got B w v l := by
  have hc := @World.ownsRow.cells w B e 3 v l.length (flat l) h
  have hl := @World.ownsRow.lt w B e 3 v l.length (flat l) h
  have h' := h
  obtain ⟨_, ⟨h, _⟩ | ⟨g, cap, cur, rfl, hB, _, hcap, _⟩⟩ := h
  · exact absurd h hv
  · refine ⟨g, cap, rfl, hB, (hl g rfl).2, fun j x hj => ?_, room_own h' hcap⟩
    obtain ⟨f0, f1, f2⟩ := flat_at l j x hj
    have g0 := hc (g := g) rfl _ _ f0
    have g1 := hc (g := g) rfl _ _ f1
    have g2 := hc (g := g) rfl _ _ f2
    simp only [Go.WideShapes.add_plain] at g0 g1 g2
    exact ⟨g0, by simpa [Nat.add_assoc] using g1, by simpa [Nat.add_assoc] using g2⟩
theorem Got.on {B : Nat} {u w : World} {v : Value} {l : List Tx.Ins} (h : Got B u v l) (hb : Below u.heap.size u w) : Got B w v l := by
  obtain ⟨g, cap, hv, h1, h2, h3, h4⟩ := h
  exact ⟨g, cap, hv, h1, Nat.lt_of_lt_of_le h2 hb.size, h3.on hb, h4.on hb⟩
theorem got_nil (w : World) (B : Nat) (hB : B ≤ w.heap.size) (t : TypeId) : Got B (w.alloc (.cells #[] t)) (.slice (some ⟨w.heap.size, 0, none⟩) 0 0) [] :=
  ⟨w.heap.size, 0, rfl, hB, by simp, fun j x h => by simp at h, fun i h => by simp at h⟩
theorem got_nil2 (w : World) (o : Obj) (B : Nat) (hB : B ≤ w.heap.size) (t : TypeId) : Got B ((w.alloc o).alloc (.cells #[] t)) (.slice (some ⟨w.heap.size + 1, 0, none⟩) 0 0) [] :=
  ⟨w.heap.size + 1, 0, rfl, by omega, by simp, fun j x h => by simp at h, fun i h => by simp at h⟩
theorem own_base {w : World} {B B' : Nat} {e : TypeId} {q n : Nat} {x : Value} {xs : List Value} (h : w.ownsRow B e q x n xs) (hB : B' ≤ B) : w.ownsRow B' e q x n xs := by
  obtain ⟨q1, q2 | ⟨g1, c1, cur1, q3, q4, q5⟩⟩ := h
  · exact ⟨q1, Or.inl q2⟩
  · exact ⟨q1, Or.inr ⟨g1, c1, cur1, q3, Nat.le_trans hB q4, q5⟩⟩
theorem own_ne {w : World} {B B' : Nat} {e e' : TypeId} {q q' n m : Nat} {x y : Value} {xs ys : List Value} (h : w.ownsRow B e q x n xs) (h' : w.ownsRow B' e' q' y m ys) (hne : e ≠ e') {g : Nat} (hg : x.ownBlock = some g) : y.ownBlock ≠ some g := by
  intro hy
  obtain ⟨_, ⟨rfl, _⟩ | ⟨g1, c1, cur1, rfl, _, hb1, _⟩⟩ := h
  · simp [Value.ownBlock] at hg
  · obtain ⟨_, ⟨rfl, _⟩ | ⟨g2, c2, cur2, rfl, _, hb2, _⟩⟩ := h'
    · simp [Value.ownBlock] at hy
    · simp only [Value.ownBlock, Option.some.injEq] at hg hy
      subst hg hy
      rw [hb1] at hb2
      simp at hb2
      exact hne hb2.2
theorem keep_own {u v : World} {B n q : Nat} {e : TypeId} {x : Value} {xs : List Value} (h : u.ownsRow B e q x n xs) (hb : Below u.heap.size u v) : v.ownsRow B e q x n xs :=
  h.kept (row := none) ⟨hb.os, hb.tape, hb.output, hb.size, fun k hk _ => hb.block k hk⟩ (by
    cases hx : x.ownBlock with
    | none => exact Or.inl rfl
    | some g => exact Or.inr (by simp))

/-- The cells of steps, where they lie. -/
theorem flat_len (l : List Tx.Ins) : (flat l).length = l.length * 3 := by
  induction l with
  | nil => rfl
  | cons x l ih => have e : flat (x :: l) = .int .i64 x.1 :: .int .i64 x.2.1 :: .int .i64 x.2.2 :: flat l := by simp [flat]
                   rw [e]; simp [ih]; omega
theorem flat_append (l r : List Tx.Ins) : flat (l ++ r) = flat l ++ flat r := by simp [flat]
theorem flat_one (l : List Tx.Ins) : ∀ u ∈ flat l, u.oneCell' = true := by
  intro u hu
  obtain ⟨x, _, hx⟩ := List.mem_flatMap.1 hu
  simp at hx
  rcases hx with rfl | rfl | rfl <;> rfl
theorem flat_get {l : List Tx.Ins} {j : Nat} {u : Value} (h : (flat l)[j]? = some u) : ∃ x, l[j / 3]? = some x ∧ ((j % 3 = 0 ∧ u = .int .i64 x.1) ∨ (j % 3 = 1 ∧ u = .int .i64 x.2.1) ∨ (j % 3 = 2 ∧ u = .int .i64 x.2.2)) := by
  have hj : j < (flat l).length := (List.getElem?_eq_some_iff.1 h).1
  rw [flat_len] at hj
  have hq : j / 3 < l.length := by omega
  refine ⟨l[j / 3], List.getElem?_eq_getElem hq, ?_⟩
  obtain ⟨f0, f1, f2⟩ := flat_at l (j / 3) _ (List.getElem?_eq_getElem hq)
  have hm : j % 3 = 0 ∨ j % 3 = 1 ∨ j % 3 = 2 := by omega
  rcases hm with hm | hm | hm
  · refine .inl ⟨hm, ?_⟩
    have e : j / 3 * 3 = j := by omega
    rw [e, h] at f0; exact Option.some.inj f0
  · refine .inr (.inl ⟨hm, ?_⟩)
    have e : j / 3 * 3 + 1 = j := by omega
    rw [e, h] at f1; exact Option.some.inj f1
  · refine .inr (.inr ⟨hm, ?_⟩)
    have e : j / 3 * 3 + 2 = j := by omega
    rw [e, h] at f2; exact Option.some.inj f2
theorem Row.flat {w : World} {g o : Nat} {l : List Tx.Ins} (h : Row w g o l) : ∀ j u, (flat l)[j]? = some u → w.cell? ((⟨g, o, none⟩ : Addr).add j) = some u := by
  intro j u hu
  obtain ⟨x, hx, hh⟩ := flat_get hu
  obtain ⟨h0, h1, h2⟩ := h _ _ hx
  rw [Go.WideShapes.add_plain]
  rcases hh with ⟨hm, rfl⟩ | ⟨hm, rfl⟩ | ⟨hm, rfl⟩
  · have e : o + j / 3 * 3 = o + j := by omega
    rw [e] at h0; exact h0
  · have e : o + j / 3 * 3 + 1 = o + j := by omega
    rw [e] at h1; exact h1
  · have e : o + j / 3 * 3 + 2 = o + j := by omega
    rw [e] at h2; exact h2
/-- A literal of steps. -/
theorem got_lit (w : World) (B : Nat) (hB : B ≤ w.heap.size) (l : List Tx.Ins) (cap : Nat) (t : TypeId) (cs : Array Value) (hcs : cs = (flat l).toArray) : Got B (w.alloc (.cells cs t)) (.slice (some ⟨w.heap.size, 0, none⟩) l.length cap) l := by
  subst hcs
  have hc : ∀ j u, (flat l)[j]? = some u → (w.alloc (.cells (flat l).toArray t)).cell? ⟨w.heap.size, j, none⟩ = some u := by
    intro j u hu
    simp [go_sem, hu]
  refine ⟨w.heap.size, cap, rfl, hB, by simp, fun j x hj => ?_, fun i hi => ?_⟩
  · obtain ⟨f0, f1, f2⟩ := flat_at l j x hj
    rw [Nat.zero_add]
    exact ⟨hc _ _ f0, hc _ _ f1, hc _ _ f2⟩
  · have : i < (flat l).length := by rw [flat_len]; exact hi
    exact ⟨⟨_, hc i _ (List.getElem?_eq_getElem this)⟩, by simp [go_sem]⟩
theorem Got.base {B B' : Nat} {w : World} {v : Value} {l : List Tx.Ins} (h : Got B w v l) (hB : B' ≤ B) : Got B' w v l := by
  obtain ⟨g, cap, hv, h1, h2, h3, h4⟩ := h
  exact ⟨g, cap, hv, Nat.le_trans hB h1, h2, h3, h4⟩
end St
end Go.Proofs.Ytdomclicgajihaa

/- Contracts of both sides' copying of methods. -/
namespace Go.Proofs.Ytdomclicgajihaa
namespace Pg
open Go.ChangeShapes Go.WideShapes Go.ChangeAt Go.RowKit St

theorem grow_of {w : World} {B : Nat} {v : Value} {l : List Int} (h : w.ownsRow B 2 1 v l.length (nums l)) (hv : v ≠ .slice none 0 0) : Grow B w v l := ⟨h, hv⟩
theorem cs_of {w : World} {B : Nat} {v : Value} {l : List Tx.Ins} (h : w.ownsRow B 96 3 v l.length (flat l)) (hv : v ≠ .slice none 0 0) : CS B w v l := got_of h hv

/-- A row of numbers of its own, in a block from B1 on and below B2, or nil. -/
def GZ (B1 B2 : Nat) (w : World) (v : Value) (l : List Int) : Prop := (∃ g c, v = .slice (some ⟨g, 0, none⟩) l.length c ∧ B1 ≤ g ∧ g < B2 ∧ g < w.heap.size ∧ IRow w g 0 l ∧ Room w g l.length) ∨ (v = .slice none 0 0 ∧ l = [])
/-- A row of steps of its own, in a block from B1 on and below B2, or nil. -/
def CZ (B1 B2 : Nat) (w : World) (v : Value) (l : List Tx.Ins) : Prop := (∃ g c, v = .slice (some ⟨g, 0, none⟩) l.length c ∧ B1 ≤ g ∧ g < B2 ∧ g < w.heap.size ∧ Row w g 0 l ∧ Room w g (l.length * 3)) ∨ (v = .slice none 0 0 ∧ l = [])
theorem room_moved {u w : World} {g n : Nat} (hg : w.heap[g]? = u.heap[g]?) (h : Room u g n) : Room w g n := fun i hi => by
  obtain ⟨⟨x, hx⟩, hf⟩ := h i hi
  exact ⟨⟨x, (World.cell?_of_block (w := u) hg).trans hx⟩, (World.frozen?_of_block (w := u) hg).trans hf⟩
theorem GZ.moved {B1 B2 : Nat} {u w : World} {v : Value} {l : List Int} (h : GZ B1 B2 u v l) (hs : u.heap.size ≤ w.heap.size) (hb : ∀ k, B1 ≤ k → k < B2 → k < u.heap.size → w.heap[k]? = u.heap[k]?) : GZ B1 B2 w v l := by
  rcases h with ⟨g, c, hv, h1, h2, h3, h4, h5⟩ | h
  · have hg := hb g h1 h2 h3
    exact .inl ⟨g, c, hv, h1, h2, by omega, fun j x hj => (World.cell?_of_block (w := u) hg).trans (h4 j x hj), room_moved hg h5⟩
  · exact .inr h
theorem CZ.moved {B1 B2 : Nat} {u w : World} {v : Value} {l : List Tx.Ins} (h : CZ B1 B2 u v l) (hs : u.heap.size ≤ w.heap.size) (hb : ∀ k, B1 ≤ k → k < B2 → k < u.heap.size → w.heap[k]? = u.heap[k]?) : CZ B1 B2 w v l := by
  rcases h with ⟨g, c, hv, h1, h2, h3, h4, h5⟩ | h
  · have hg := hb g h1 h2 h3
    exact .inl ⟨g, c, hv, h1, h2, by omega, fun j x hj => by
      obtain ⟨c0, c1, c2⟩ := h4 j x hj
      exact ⟨(World.cell?_of_block (w := u) hg).trans c0, (World.cell?_of_block (w := u) hg).trans c1, (World.cell?_of_block (w := u) hg).trans c2⟩, room_moved hg h5⟩
  · exact .inr h
theorem GZ.keep {B B1 B2 : Nat} {u w : World} {v : Value} {l : List Int} (h : GZ B1 B2 u v l) (hk : Keep B u w) (hB : B ≤ B1) : GZ B1 B2 w v l := h.moved hk.size fun k h1 _ hl => hk.block k (by omega) hl
theorem CZ.keep {B B1 B2 : Nat} {u w : World} {v : Value} {l : List Tx.Ins} (h : CZ B1 B2 u v l) (hk : Keep B u w) (hB : B ≤ B1) : CZ B1 B2 w v l := h.moved hk.size fun k h1 _ hl => hk.block k (by omega) hl
theorem GZ.low {B B1 B2 : Nat} {u w : World} {v : Value} {l : List Int} (h : GZ B1 B2 u v l) (hk : Below B u w) (hB : B2 ≤ B) : GZ B1 B2 w v l := h.moved hk.size fun k _ h2 _ => hk.block k (by omega)
theorem CZ.low {B B1 B2 : Nat} {u w : World} {v : Value} {l : List Tx.Ins} (h : CZ B1 B2 u v l) (hk : Below B u w) (hB : B2 ≤ B) : CZ B1 B2 w v l := h.moved hk.size fun k _ h2 _ => hk.block k (by omega)
theorem GZ.on {B1 B2 : Nat} {u w : World} {v : Value} {l : List Int} (h : GZ B1 B2 u v l) (hk : Below u.heap.size u w) : GZ B1 B2 w v l := h.moved hk.size fun k _ _ h3 => hk.block k h3
theorem CZ.on {B1 B2 : Nat} {u w : World} {v : Value} {l : List Tx.Ins} (h : CZ B1 B2 u v l) (hk : Below u.heap.size u w) : CZ B1 B2 w v l := h.moved hk.size fun k _ _ h3 => hk.block k h3
theorem GZ.weak {B1 B2 C1 C2 : Nat} {w : World} {v : Value} {l : List Int} (h : GZ B1 B2 w v l) (h1 : C1 ≤ B1) (h2 : B2 ≤ C2) : GZ C1 C2 w v l := by
  rcases h with ⟨g, c, hv, k1, k2, h3, h4, h5⟩ | h
  · exact .inl ⟨g, c, hv, by omega, by omega, h3, h4, h5⟩
  · exact .inr h
theorem CZ.weak {B1 B2 C1 C2 : Nat} {w : World} {v : Value} {l : List Tx.Ins} (h : CZ B1 B2 w v l) (h1 : C1 ≤ B1) (h2 : B2 ≤ C2) : CZ C1 C2 w v l := by
  rcases h with ⟨g, c, hv, k1, k2, h3, h4, h5⟩ | h
  · exact .inl ⟨g, c, hv, by omega, by omega, h3, h4, h5⟩
  · exact .inr h
theorem GZ.form {B1 B2 : Nat} {w : World} {v : Value} {l : List Int} (h : GZ B1 B2 w v l) : ∃ a c, v = .slice a l.length c := by
  rcases h with ⟨g, c, hv, _⟩ | ⟨hv, hl⟩
  · exact ⟨_, _, hv⟩
  · subst hl; exact ⟨_, _, hv⟩
theorem CZ.form {B1 B2 : Nat} {w : World} {v : Value} {l : List Tx.Ins} (h : CZ B1 B2 w v l) : ∃ a c, v = .slice a l.length c := by
  rcases h with ⟨g, c, hv, _⟩ | ⟨hv, hl⟩
  · exact ⟨_, _, hv⟩
  · subst hl; exact ⟨_, _, hv⟩
theorem GZ.of {B : Nat} {w : World} {v : Value} {l : List Int} (h : GInt B w v l) : GZ B w.heap.size w v l := by
  obtain ⟨g, c, hv, h1, h2, h3, h4⟩ := h
  exact .inl ⟨g, c, hv, h1, h2, h2, h3, h4⟩
theorem CZ.of {B : Nat} {w : World} {v : Value} {l : List Tx.Ins} (h : CS B w v l) : CZ B w.heap.size w v l := by
  obtain ⟨g, c, hv, h1, h2, h3, h4⟩ := h
  exact .inl ⟨g, c, hv, h1, h2, h2, h3, h4⟩
theorem GZ.si {B1 B2 : Nat} {w : World} {v : Value} {l : List Int} (h : GZ B1 B2 w v l) : SI true B1 w v l := by
  rcases h with ⟨g, c, rfl, h1, _, h2, h3, h4⟩ | ⟨rfl, rfl⟩
  · exact SI.row h1 h2 h3 h4
  · exact SI.nil _ _ _
/-- A method that a call has made: its rows in blocks of their own. -/
def AnsM (B : Nat) (w : World) (va vc : Value) (m : Meth) : Prop := ∃ M, B ≤ M ∧ M ≤ w.heap.size ∧ GZ B M w va m.args ∧ CZ M w.heap.size w vc m.code

theorem AnsM.keep {B C : Nat} {u w : World} {va vc : Value} {m : Meth} (h : AnsM B u va vc m) (hk : Keep C u w) (hB : C ≤ B) : AnsM B w va vc m := by
  obtain ⟨M, h1, h2, h3, h4⟩ := h
  exact ⟨M, h1, Nat.le_trans h2 hk.size, h3.keep hk hB, (h4.keep hk (Nat.le_trans hB h1)).weak (Nat.le_refl _) hk.size⟩
theorem AnsM.weak {B C : Nat} {w : World} {va vc : Value} {m : Meth} (h : AnsM B w va vc m) (hB : C ≤ B) : AnsM C w va vc m := by
  obtain ⟨M, h1, h2, h3, h4⟩ := h
  exact ⟨M, Nat.le_trans hB h1, h2, h3.weak hB (Nat.le_refl _), h4⟩

set_option maxRecDepth 100000 in
set_option maxHeartbeats 800000 in
theorem cloneInts (B : Nat) (a : Option Addr) (cap : Nat) (l : List Int) (hl : l.length ≤ 1048576) (w : World) (h : SI true B w (.slice a l.length cap) l) :
    Calls Try.prog 44 #[.slice a l.length cap] w fun e w' => ∃ v, e = .returned v ∧ GZ w.heap.size w'.heap.size w' v l ∧ Below w.heap.size w w' := by
  obtain ⟨i0, hif, hz0, hz1, hz2⟩ := info_parts infoN
  cases a with
  | none =>
    obtain ⟨rfl, _, rfl⟩ := Arr.nil h
    clear h
    have hq : ∀ W : World, (binOp .eql 34 (.slice none 0 0) (.slice none 0 0)).run Try.prog W = .ok (.bool true) W := fun W => Lib.run_eql_slice_nil W _ _ _ _ _ _ _ Try.underlying34
    go_enter Try.func44, Try.ntmps44
    go_wp2
    go_ret
    exact ⟨_, rfl, .inr ⟨rfl, rfl⟩, Below.refl _ _⟩
  | some ad =>
    have HN : Hid (∀ x, Below w.heap.size w x → ∀ j u, (nums l)[j]? = some u → x.cell? (ad.add j) = some u) := fun x hx => SI.nums (SI.on h (Keep.of hx))
    clear h
    have hq : ∀ W : World, (binOp .eql 34 (.slice (some ad) l.length cap) (.slice none 0 0)).run Try.prog W = .ok (.bool false) W := fun W => Lib.run_eql_slice_nil W _ _ _ _ _ _ _ Try.underlying34
    go_enter Try.func44, Try.ntmps44
    go_wp2_with (at_builtin; refine wpList_append_own _ rfl _ _ 34 rfl w.heap.size 2 i0 (.int .i64 0) 1 8 Try.underlying34 hif hz0 hz1 hz2 rfl (by decide) _ _ _ rfl (World.ownsRow_made w #[] 0 (Nat.le_refl _) (by decide) (by simp)) ad l.length cap (nums l) rfl (by simp [nums]) (HN.out _ ((Below.refl _ _).alloc (Nat.le_refl _) _)) (nums_one _) (by unfold maxLen; omega) (by omega) (by simp) ?_)
    intro v' w1 hown hgrow hnil
    have hb : Below w.heap.size w w1 := ((Below.refl _ _).alloc (Nat.le_refl _) _).grown hgrow (by simp) (fun g hg => by simp [Value.ownBlock] at hg; omega)
    have HG : Hid (GZ w.heap.size w1.heap.size w1 v' l) := GZ.of (grow_of hown (fun h => by first | exact hnil h | exact absurd (hnil.1 h).1 (by simp))).gint
    clear hown hgrow hnil
    go_wp2
    go_ret
    exact ⟨_, rfl, HG.out, hb⟩
set_option maxRecDepth 100000 in
set_option maxHeartbeats 800000 in
theorem cloneCode (B : Nat) (v : Value) (l : List Tx.Ins) (hl : l.length ≤ 1048576) (w : World) (h : CS B w v l) :
    Calls Try.prog 82 #[v] w fun e w' => ∃ v, e = .returned v ∧ CS w.heap.size w' v l ∧ Below w.heap.size w w' := by
  obtain ⟨i0, hi, hz0, hz1, hz2⟩ := info_parts infoI
  obtain ⟨g, cap, rfl, _, _, hr, _⟩ := h
  have HR : Hid (Row w g 0 l) := hr
  clear hr
  have hq : ∀ W : World, (binOp .eql 50 (.slice (some ⟨g, 0, none⟩) l.length cap) (.slice none 0 0)).run Try.prog W = .ok (.bool false) W := fun W => Lib.run_eql_slice_nil W _ _ _ _ _ _ _ Try.underlying50
  go_enter Try.func82, Try.ntmps82
  go_wp2_with (at_builtin; refine wpList_append_own _ rfl _ _ 50 rfl w.heap.size 96 i0 (.agg #[.int .i64 0, .int .i64 0, .int .i64 0]) 3 24 Try.underlying50 hi hz0 hz1 hz2 rfl (by decide) _ _ _ rfl (World.ownsRow_made w #[] 0 (Nat.le_refl _) (by decide) (by simp)) ⟨g, 0, none⟩ l.length cap (flat l) rfl (flat_len l) (HR.out.on ((Below.refl _ _).alloc (Nat.le_refl _) _)).flat (flat_one _) (by unfold maxLen; omega) (by omega) (by simp) ?_)
  intro v' w1 hown hgrow hnil
  have hb : Below w.heap.size w w1 := ((Below.refl _ _).alloc (Nat.le_refl _) _).grown hgrow (by simp) (fun g hg => by simp [Value.ownBlock] at hg; omega)
  have HG : Hid (CS w.heap.size w1 v' l) := cs_of hown (fun h => by first | exact hnil h | exact absurd (hnil.1 h).1 (by simp))
  clear hown hgrow hnil
  go_wp2
  go_ret
  exact ⟨_, rfl, HG.out, hb⟩
end Pg
end Go.Proofs.Ytdomclicgajihaa

/- The contract of the other side's copying of a method. -/
namespace Go.Proofs.Ytdomclicgajihaa
namespace Pg
open Go.ChangeShapes Go.WideShapes Go.ChangeAt Go.RowKit St

theorem forget {P : Program} {ops : Array Oper} {Q : Exit → Act → World → Prop} {rest : List Oper} {a : Act} {w : World} (h : ∀ u, Hid (u = w) → wpList P ops Q rest a u) : wpList P ops Q rest a w := h w rfl

set_option maxRecDepth 100000 in
set_option maxHeartbeats 4000000 in
theorem l4Copy (B : Nat) (m : Meth) (va vc : Value) (hs : SmallM m) (w : World) (hv : MV front B w va vc m) :
    Calls Try.prog 60 #[.agg #[.int .i64 m.name, va, .int .i64 m.gives, vc]] w fun e w' => ∃ x1 y1 x2 y2, e = .returned (.agg #[.int .i64 m.name, .slice x1 m.args.length y1, .int .i64 m.gives, .slice x2 m.code.length y2]) ∧ AnsM w.heap.size w' (.slice x1 m.args.length y1) (.slice x2 m.code.length y2) m ∧ Below w.heap.size w w' ∧ CS w.heap.size w' (.slice x2 m.code.length y2) m.code := by
  obtain ⟨k0, hif, hz0, hz1, hz2⟩ := info_parts infoN
  obtain ⟨j0, hj, hy0, hy1, hy2⟩ := info_parts infoI
  obtain ⟨x1, y1, rfl⟩ := hv.1.form
  obtain ⟨gc, y2, rfl, _, _, hrow, _⟩ := hv.2
  have HI : Hid (SI true B w (.slice x1 m.args.length y1) m.args) := hv.1
  have HR : Hid (Row w gc 0 m.code) := hrow
  have hs1 := hs.1
  have hs2 := hs.2
  clear hv hrow hs
  have hwW : Below w.heap.size w ((w.alloc (.cells #[.int .i64 m.name, .slice x1 m.args.length y1, .int .i64 m.gives, .slice (some ⟨gc, 0, none⟩) m.code.length y2] 52)).alloc (.cells #[.int .i64 0, .slice none 0 0, .int .i64 0, .slice none 0 0] 52)) := ((Below.refl _ _).alloc (Nat.le_refl _) _).alloc (by simp) _
  have HZW : Hid (((w.alloc (.cells #[.int .i64 m.name, .slice x1 m.args.length y1, .int .i64 m.gives, .slice (some ⟨gc, 0, none⟩) m.code.length y2] 52)).alloc (.cells #[.int .i64 0, .slice none 0 0, .int .i64 0, .slice none 0 0] 52)).heap.size = w.heap.size + 1 + 1) := by show _ = _; simp
  have M0 : Hid (Cells ((w.alloc (.cells #[.int .i64 m.name, .slice x1 m.args.length y1, .int .i64 m.gives, .slice (some ⟨gc, 0, none⟩) m.code.length y2] 52)).alloc (.cells #[.int .i64 0, .slice none 0 0, .int .i64 0, .slice none 0 0] 52)) w.heap.size [.int .i64 m.name, .slice x1 m.args.length y1, .int .i64 m.gives, .slice (some ⟨gc, 0, none⟩) m.code.length y2]) := (Cells.new w _ rfl _ _).alloc _
  have R0 : Hid (Cells ((w.alloc (.cells #[.int .i64 m.name, .slice x1 m.args.length y1, .int .i64 m.gives, .slice (some ⟨gc, 0, none⟩) m.code.length y2] 52)).alloc (.cells #[.int .i64 0, .slice none 0 0, .int .i64 0, .slice none 0 0] 52)) (w.heap.size + 1) [.int .i64 0, .slice none 0 0, .int .i64 0, .slice none 0 0]) := Cells.new (w.alloc _) _ (by simp) _ _
  have HOW : Hid ((((w.alloc (.cells #[.int .i64 m.name, .slice x1 m.args.length y1, .int .i64 m.gives, .slice (some ⟨gc, 0, none⟩) m.code.length y2] 52)).alloc (.cells #[.int .i64 0, .slice none 0 0, .int .i64 0, .slice none 0 0] 52)).alloc (.cells #[] 2)).ownsRow (w.heap.size + 1 + 1) 2 1 (.slice (some ⟨w.heap.size + 1 + 1, 0, none⟩) 0 0) 0 []) := by
    have h := World.ownsRow_made (base := w.heap.size + 1 + 1) (e := 2) (size := 1) ((w.alloc (.cells #[.int .i64 m.name, .slice x1 m.args.length y1, .int .i64 m.gives, .slice (some ⟨gc, 0, none⟩) m.code.length y2] 52)).alloc (.cells #[.int .i64 0, .slice none 0 0, .int .i64 0, .slice none 0 0] 52)) #[] 0 (by simp) (by decide) (by simp)
    unfold Hid
    simpa using h
  have HNN : Hid ((⟨w.heap.size, 1, none⟩ : Addr).block ≠ w.heap.size + 1) := by show w.heap.size ≠ w.heap.size + 1; omega
  have b1 := (M0.out.alloc (.cells #[] 2)).g1.1
  cases x1 with
  | none =>
    obtain ⟨hfe, _, ht1⟩ := Arr.nil HI.out
    obtain ⟨nm, ags, gv, cd⟩ := m
    dsimp only at hfe
    subst hfe
    subst ht1
    dsimp only [List.length_nil] at *
    clear HI
    go_enter Try.func60, Try.ntmps60
    go_wp2_with (at_builtin; refine wpList_append_own_none rfl _ _ 34 rfl (w.heap.size + 1 + 1) 2 k0 1 Try.underlying34 hif _ _ _ rfl HOW.out rfl ?_; refine forget ?_)
    intro w1 hu
    have hb1 : Below ((w.alloc (.cells #[.int .i64 nm, .slice none 0 0, .int .i64 gv, .slice (some ⟨gc, 0, none⟩) cd.length y2] 52)).alloc (.cells #[.int .i64 0, .slice none 0 0, .int .i64 0, .slice none 0 0] 52)).heap.size ((w.alloc (.cells #[.int .i64 nm, .slice none 0 0, .int .i64 gv, .slice (some ⟨gc, 0, none⟩) cd.length y2] 52)).alloc (.cells #[.int .i64 0, .slice none 0 0, .int .i64 0, .slice none 0 0] 52)) w1 := by rw [hu.out]; exact (Below.refl _ _).alloc (Nat.le_refl _) _
    have HS1 : Hid (GZ (w.heap.size + 1 + 1) w1.heap.size w1 (.slice (some ⟨w.heap.size + 1 + 1, 0, none⟩) 0 0) []) := by
      rw [hu.out]
      exact GZ.of (grow_of (l := []) HOW.out (by simp)).gint
    have M1 := M0.out.on hb1
    have R1 := R0.out.on hb1
    have HB1 : Hid (Below w.heap.size w w1) := below_over hwW hb1
    have hz1' : w.heap.size + 1 + 1 ≤ w1.heap.size := by
      have h1 := hb1.size
      have h2 := HZW.out
      omega
    clear hu
    obtain ⟨m1, f1⟩ := M1.g1
    have MX1 := M1.s1 (.slice (some ⟨w.heap.size + 1 + 1, 0, none⟩) 0 0)
    have RX1 := R1.far ⟨w.heap.size, 1, none⟩ (.slice (some ⟨w.heap.size + 1 + 1, 0, none⟩) 0 0) HNN.out
    have SX1 := HS1.out.keep (Keep.set (B := w.heap.size + 1 + 1) w1 (p := ⟨w.heap.size, 1, none⟩) (by show w.heap.size < w.heap.size + 1 + 1; omega) (.slice (some ⟨w.heap.size + 1 + 1, 0, none⟩) 0 0)) (Nat.le_refl _)
    have hwX := HB1.out.setCell (p := ⟨w.heap.size, 1, none⟩) (by simp) (.slice (some ⟨w.heap.size + 1 + 1, 0, none⟩) 0 0)
    have hzX1 : w.heap.size + 1 + 1 ≤ (w1.setCell ⟨w.heap.size, 1, none⟩ (.slice (some ⟨w.heap.size + 1 + 1, 0, none⟩) 0 0)).heap.size := by
      simp
      omega
    clear hb1 b1 HS1 M1 R1 HB1 HOW M0 R0 hwW HZW
    have MB : Hid (Cells (w1.setCell ⟨w.heap.size, 1, none⟩ (.slice (some ⟨w.heap.size + 1 + 1, 0, none⟩) 0 0)) w.heap.size [.int .i64 nm, .slice (some ⟨w.heap.size + 1 + 1, 0, none⟩) 0 0, .int .i64 gv, .slice (some ⟨gc, 0, none⟩) cd.length y2]) := MX1
    have RB : Hid (Cells (w1.setCell ⟨w.heap.size, 1, none⟩ (.slice (some ⟨w.heap.size + 1 + 1, 0, none⟩) 0 0)) (w.heap.size + 1) [.int .i64 0, .slice none 0 0, .int .i64 0, .slice none 0 0]) := RX1
    have HV1 : Hid (GZ (w.heap.size + 1 + 1) w1.heap.size (w1.setCell ⟨w.heap.size, 1, none⟩ (.slice (some ⟨w.heap.size + 1 + 1, 0, none⟩) 0 0)) (.slice (some ⟨w.heap.size + 1 + 1, 0, none⟩) 0 0) []) := SX1
    have HBX : Hid (Below w.heap.size w (w1.setCell ⟨w.heap.size, 1, none⟩ (.slice (some ⟨w.heap.size + 1 + 1, 0, none⟩) 0 0))) := hwX
    have hzX : w.heap.size + 1 + 1 ≤ (w1.setCell ⟨w.heap.size, 1, none⟩ (.slice (some ⟨w.heap.size + 1 + 1, 0, none⟩) 0 0)).heap.size := hzX1
    clear MX1 RX1 SX1 hwX hzX1
    have HO2 : Hid (((w1.setCell ⟨w.heap.size, 1, none⟩ (.slice (some ⟨w.heap.size + 1 + 1, 0, none⟩) 0 0)).alloc (.cells #[] 96)).ownsRow w1.heap.size 96 3 (.slice (some ⟨w1.heap.size, 0, none⟩) 0 0) 0 []) := by
      have h := World.ownsRow_made (base := w1.heap.size) (e := 96) (size := 3) (w1.setCell ⟨w.heap.size, 1, none⟩ (.slice (some ⟨w.heap.size + 1 + 1, 0, none⟩) 0 0)) #[] 0 (by simp) (by decide) (by simp)
      unfold Hid
      simpa using h
    have k3 := (MB.out.alloc (.cells #[] 96)).g3.1
    go_wp2_with (at_builtin; go_loud (refine wpList_append_own _ rfl _ _ 50 rfl w1.heap.size 96 j0 (.agg #[.int .i64 0, .int .i64 0, .int .i64 0]) 3 24 Try.underlying50 hj hy0 hy1 hy2 rfl (by decide) _ _ _ rfl HO2.out ⟨gc, 0, none⟩ cd.length y2 (flat cd) rfl (flat_len cd) (HR.out.on (HBX.out.alloc HBX.out.size _)).flat (flat_one _) (by unfold maxLen; omega) (by omega) (by simp) ?_))
    intro v5 w5 hown5 hgrow5 hnil5
    have hb5 : Below (w1.setCell ⟨w.heap.size, 1, none⟩ (.slice (some ⟨w.heap.size + 1 + 1, 0, none⟩) 0 0)).heap.size (w1.setCell ⟨w.heap.size, 1, none⟩ (.slice (some ⟨w.heap.size + 1 + 1, 0, none⟩) 0 0)) w5 := ((Below.refl _ _).alloc (Nat.le_refl _) _).grown hgrow5 (by simp) (fun g hg => by simp [Value.ownBlock] at hg ⊢; omega)
    have hcs := cs_of hown5 (fun h => by first | exact hnil5 h | exact absurd (hnil5.1 h).1 (by simp))
    obtain ⟨a5, c5, rfl⟩ := front.form hcs
    have HC5 : Hid (CS w1.heap.size w5 (.slice a5 cd.length c5) cd) := hcs
    have HV5 : Hid (GZ (w.heap.size + 1 + 1) w1.heap.size w5 (.slice (some ⟨w.heap.size + 1 + 1, 0, none⟩) 0 0) []) := HV1.out.on hb5
    have HZ5 : Hid (w1.heap.size ≤ w5.heap.size) := by show _ ≤ _; have := hb5.size; simpa using this
    have HW5 : Hid (Below w.heap.size w w5) := below_over HBX.out hb5
    have O3 := MB.out.on hb5
    have R3 := RB.out.on hb5
    clear hown5 hgrow5 hnil5 hcs k3 HV1 HBX MB RB hb5
    have N10 : (⟨w.heap.size, 3, none⟩ : Addr).block ≠ w.heap.size + 1 := by show w.heap.size ≠ w.heap.size + 1; omega
    have O4 := O3.s3 (.slice a5 cd.length c5)
    have R4 := R3.far ⟨w.heap.size, 3, none⟩ (.slice a5 cd.length c5) N10
    have R5 := (((R4.s0 (.int .i64 nm)).s1 (.slice (some ⟨w.heap.size + 1 + 1, 0, none⟩) 0 0)).s2 (.int .i64 gv)).s3 (.slice a5 cd.length c5)
    obtain ⟨o3, p3⟩ := O3.g3
    obtain ⟨i0, _⟩ := O4.g0
    obtain ⟨i1, _⟩ := O4.g1
    obtain ⟨i2, _⟩ := O4.g2
    obtain ⟨i3, _⟩ := O4.g3
    obtain ⟨r0, q0⟩ := R4.g0
    obtain ⟨r1, q1⟩ := R4.g1
    obtain ⟨r2, q2⟩ := R4.g2
    obtain ⟨r3, q3⟩ := R4.g3
    obtain ⟨e0, _⟩ := R5.g0
    obtain ⟨e1, _⟩ := R5.g1
    obtain ⟨e2, _⟩ := R5.g2
    obtain ⟨e3, _⟩ := R5.g3
    clear O4 R4 R5 R3 O3 N10
    go_wp2
    refine bodyPost_ret (v := .agg #[.int .i64 nm, .slice (some ⟨w.heap.size + 1 + 1, 0, none⟩) 0 0, .int .i64 gv, .slice a5 cd.length c5]) (by simp [results, Try.results60, go_sem, e0, e1, e2, e3]) rfl ?_
    have hk : ∀ (x : World) (j i : Nat) (v : Value), j < w.heap.size + 1 + 1 → Keep (w.heap.size + 1 + 1) x (x.setCell ⟨j, i, none⟩ v) := fun x j i v hj => Keep.set x (p := ⟨j, i, none⟩) hj v
    have hkk := ((((hk w5 w.heap.size 3 (.slice a5 cd.length c5) (by omega)).trans (hk _ (w.heap.size + 1) 0 (.int .i64 nm) (by omega))).trans (hk _ (w.heap.size + 1) 1 (.slice (some ⟨w.heap.size + 1 + 1, 0, none⟩) 0 0) (by omega))).trans (hk _ (w.heap.size + 1) 2 (.int .i64 gv) (by omega))).trans (hk _ (w.heap.size + 1) 3 (.slice a5 cd.length c5) (by omega))
    have hbb := ((((HW5.out.setCell (p := ⟨w.heap.size, 3, none⟩) (by simp) (.slice a5 cd.length c5)).setCell (p := ⟨w.heap.size + 1, 0, none⟩) (by simp) (.int .i64 nm)).setCell (p := ⟨w.heap.size + 1, 1, none⟩) (by simp) (.slice (some ⟨w.heap.size + 1 + 1, 0, none⟩) 0 0)).setCell (p := ⟨w.heap.size + 1, 2, none⟩) (by simp) (.int .i64 gv)).setCell (p := ⟨w.heap.size + 1, 3, none⟩) (by simp) (.slice a5 cd.length c5)
    exact ⟨some ⟨w.heap.size + 1 + 1, 0, none⟩, 0, a5, c5, rfl, ⟨w1.heap.size, by omega, by have := hkk.size; have := HZ5.out; omega, (HV5.out.keep hkk (Nat.le_refl _)).weak (by omega) (Nat.le_refl _), ((CZ.of HC5.out).keep hkk hz1').weak (Nat.le_refl _) hkk.size⟩, hbb, front.weak (HC5.out.on (hkk.mono hz1')) (by omega)⟩
  | some ad =>
    have HN : Hid (∀ x, Below ((w.alloc (.cells #[.int .i64 m.name, .slice (some ad) m.args.length y1, .int .i64 m.gives, .slice (some ⟨gc, 0, none⟩) m.code.length y2] 52)).alloc (.cells #[.int .i64 0, .slice none 0 0, .int .i64 0, .slice none 0 0] 52)).heap.size ((w.alloc (.cells #[.int .i64 m.name, .slice (some ad) m.args.length y1, .int .i64 m.gives, .slice (some ⟨gc, 0, none⟩) m.code.length y2] 52)).alloc (.cells #[.int .i64 0, .slice none 0 0, .int .i64 0, .slice none 0 0] 52)) x → ∀ j u, (nums m.args)[j]? = some u → x.cell? (ad.add j) = some u) := fun x hx => SI.nums (SI.on HI.out (Keep.of (below_over hwW hx)))
    go_enter Try.func60, Try.ntmps60
    go_wp2_with (at_builtin; refine wpList_append_own _ rfl _ _ 34 rfl (w.heap.size + 1 + 1) 2 k0 (.int .i64 0) 1 8 Try.underlying34 hif hz0 hz1 hz2 rfl (by decide) _ _ _ rfl HOW.out ad m.args.length y1 (nums m.args) rfl (by simp [nums]) (HN.out _ ((Below.refl _ _).alloc (Nat.le_refl _) _)) (nums_one _) (by unfold maxLen; omega) (by omega) (by simp) ?_)
    intro v1 w1 hown1 hgrow1 hnil1
    have hb1 : Below ((w.alloc (.cells #[.int .i64 m.name, .slice (some ad) m.args.length y1, .int .i64 m.gives, .slice (some ⟨gc, 0, none⟩) m.code.length y2] 52)).alloc (.cells #[.int .i64 0, .slice none 0 0, .int .i64 0, .slice none 0 0] 52)).heap.size ((w.alloc (.cells #[.int .i64 m.name, .slice (some ad) m.args.length y1, .int .i64 m.gives, .slice (some ⟨gc, 0, none⟩) m.code.length y2] 52)).alloc (.cells #[.int .i64 0, .slice none 0 0, .int .i64 0, .slice none 0 0] 52)) w1 := ((Below.refl _ _).alloc (Nat.le_refl _) _).grown hgrow1 (by simp) (fun g hg => by simp [Value.ownBlock] at hg ⊢; omega)
    have hsi := GZ.of (grow_of hown1 (fun h => by first | exact hnil1 h | exact absurd (hnil1.1 h).1 (by simp))).gint
    obtain ⟨a1, c1, rfl⟩ := hsi.form
    have HS1 : Hid (GZ (w.heap.size + 1 + 1) w1.heap.size w1 (.slice a1 m.args.length c1) m.args) := hsi
    have M1 := M0.out.on hb1
    have R1 := R0.out.on hb1
    have HB1 : Hid (Below w.heap.size w w1) := below_over hwW hb1
    have hz1' : w.heap.size + 1 + 1 ≤ w1.heap.size := by
      have h1 := hb1.size
      have h2 := HZW.out
      omega
    obtain ⟨m1, f1⟩ := M1.g1
    have MX1 := M1.s1 (.slice a1 m.args.length c1)
    have RX1 := R1.far ⟨w.heap.size, 1, none⟩ (.slice a1 m.args.length c1) HNN.out
    have SX1 := HS1.out.keep (Keep.set (B := w.heap.size + 1 + 1) w1 (p := ⟨w.heap.size, 1, none⟩) (by show w.heap.size < w.heap.size + 1 + 1; omega) (.slice a1 m.args.length c1)) (Nat.le_refl _)
    have hwX := HB1.out.setCell (p := ⟨w.heap.size, 1, none⟩) (by simp) (.slice a1 m.args.length c1)
    have hzX1 : w.heap.size + 1 + 1 ≤ (w1.setCell ⟨w.heap.size, 1, none⟩ (.slice a1 m.args.length c1)).heap.size := by
      simp
      omega
    clear hown1 hgrow1 hnil1 hsi hb1 b1 HS1 M1 R1 HB1 HOW M0 R0 hwW HZW
    have MB : Hid (Cells (w1.setCell ⟨w.heap.size, 1, none⟩ (.slice a1 m.args.length c1)) w.heap.size [.int .i64 m.name, .slice a1 m.args.length c1, .int .i64 m.gives, .slice (some ⟨gc, 0, none⟩) m.code.length y2]) := MX1
    have RB : Hid (Cells (w1.setCell ⟨w.heap.size, 1, none⟩ (.slice a1 m.args.length c1)) (w.heap.size + 1) [.int .i64 0, .slice none 0 0, .int .i64 0, .slice none 0 0]) := RX1
    have HV1 : Hid (GZ (w.heap.size + 1 + 1) w1.heap.size (w1.setCell ⟨w.heap.size, 1, none⟩ (.slice a1 m.args.length c1)) (.slice a1 m.args.length c1) m.args) := SX1
    have HBX : Hid (Below w.heap.size w (w1.setCell ⟨w.heap.size, 1, none⟩ (.slice a1 m.args.length c1))) := hwX
    have hzX : w.heap.size + 1 + 1 ≤ (w1.setCell ⟨w.heap.size, 1, none⟩ (.slice a1 m.args.length c1)).heap.size := hzX1
    clear MX1 RX1 SX1 hwX hzX1
    have HO2 : Hid (((w1.setCell ⟨w.heap.size, 1, none⟩ (.slice a1 m.args.length c1)).alloc (.cells #[] 96)).ownsRow w1.heap.size 96 3 (.slice (some ⟨w1.heap.size, 0, none⟩) 0 0) 0 []) := by
      have h := World.ownsRow_made (base := w1.heap.size) (e := 96) (size := 3) (w1.setCell ⟨w.heap.size, 1, none⟩ (.slice a1 m.args.length c1)) #[] 0 (by simp) (by decide) (by simp)
      unfold Hid
      simpa using h
    have k3 := (MB.out.alloc (.cells #[] 96)).g3.1
    go_wp2_with (at_builtin; go_loud (refine wpList_append_own _ rfl _ _ 50 rfl w1.heap.size 96 j0 (.agg #[.int .i64 0, .int .i64 0, .int .i64 0]) 3 24 Try.underlying50 hj hy0 hy1 hy2 rfl (by decide) _ _ _ rfl HO2.out ⟨gc, 0, none⟩ m.code.length y2 (flat m.code) rfl (flat_len m.code) (HR.out.on (HBX.out.alloc HBX.out.size _)).flat (flat_one _) (by unfold maxLen; omega) (by omega) (by simp) ?_))
    intro v5 w5 hown5 hgrow5 hnil5
    have hb5 : Below (w1.setCell ⟨w.heap.size, 1, none⟩ (.slice a1 m.args.length c1)).heap.size (w1.setCell ⟨w.heap.size, 1, none⟩ (.slice a1 m.args.length c1)) w5 := ((Below.refl _ _).alloc (Nat.le_refl _) _).grown hgrow5 (by simp) (fun g hg => by simp [Value.ownBlock] at hg ⊢; omega)
    have hcs := cs_of hown5 (fun h => by first | exact hnil5 h | exact absurd (hnil5.1 h).1 (by simp))
    obtain ⟨a5, c5, rfl⟩ := front.form hcs
    have HC5 : Hid (CS w1.heap.size w5 (.slice a5 m.code.length c5) m.code) := hcs
    have HV5 : Hid (GZ (w.heap.size + 1 + 1) w1.heap.size w5 (.slice a1 m.args.length c1) m.args) := HV1.out.on hb5
    have HZ5 : Hid (w1.heap.size ≤ w5.heap.size) := by show _ ≤ _; have := hb5.size; simpa using this
    have HW5 : Hid (Below w.heap.size w w5) := below_over HBX.out hb5
    have O3 := MB.out.on hb5
    have R3 := RB.out.on hb5
    clear hown5 hgrow5 hnil5 hcs k3 HV1 HBX MB RB hb5
    have N10 : (⟨w.heap.size, 3, none⟩ : Addr).block ≠ w.heap.size + 1 := by show w.heap.size ≠ w.heap.size + 1; omega
    have O4 := O3.s3 (.slice a5 m.code.length c5)
    have R4 := R3.far ⟨w.heap.size, 3, none⟩ (.slice a5 m.code.length c5) N10
    have R5 := (((R4.s0 (.int .i64 m.name)).s1 (.slice a1 m.args.length c1)).s2 (.int .i64 m.gives)).s3 (.slice a5 m.code.length c5)
    obtain ⟨o3, p3⟩ := O3.g3
    obtain ⟨i0, _⟩ := O4.g0
    obtain ⟨i1, _⟩ := O4.g1
    obtain ⟨i2, _⟩ := O4.g2
    obtain ⟨i3, _⟩ := O4.g3
    obtain ⟨r0, q0⟩ := R4.g0
    obtain ⟨r1, q1⟩ := R4.g1
    obtain ⟨r2, q2⟩ := R4.g2
    obtain ⟨r3, q3⟩ := R4.g3
    obtain ⟨e0, _⟩ := R5.g0
    obtain ⟨e1, _⟩ := R5.g1
    obtain ⟨e2, _⟩ := R5.g2
    obtain ⟨e3, _⟩ := R5.g3
    clear O4 R4 R5 R3 O3 N10
    go_wp2
    refine bodyPost_ret (v := .agg #[.int .i64 m.name, .slice a1 m.args.length c1, .int .i64 m.gives, .slice a5 m.code.length c5]) (by simp [results, Try.results60, go_sem, e0, e1, e2, e3]) rfl ?_
    have hk : ∀ (x : World) (j i : Nat) (v : Value), j < w.heap.size + 1 + 1 → Keep (w.heap.size + 1 + 1) x (x.setCell ⟨j, i, none⟩ v) := fun x j i v hj => Keep.set x (p := ⟨j, i, none⟩) hj v
    have hkk := ((((hk w5 w.heap.size 3 (.slice a5 m.code.length c5) (by omega)).trans (hk _ (w.heap.size + 1) 0 (.int .i64 m.name) (by omega))).trans (hk _ (w.heap.size + 1) 1 (.slice a1 m.args.length c1) (by omega))).trans (hk _ (w.heap.size + 1) 2 (.int .i64 m.gives) (by omega))).trans (hk _ (w.heap.size + 1) 3 (.slice a5 m.code.length c5) (by omega))
    have hbb := ((((HW5.out.setCell (p := ⟨w.heap.size, 3, none⟩) (by simp) (.slice a5 m.code.length c5)).setCell (p := ⟨w.heap.size + 1, 0, none⟩) (by simp) (.int .i64 m.name)).setCell (p := ⟨w.heap.size + 1, 1, none⟩) (by simp) (.slice a1 m.args.length c1)).setCell (p := ⟨w.heap.size + 1, 2, none⟩) (by simp) (.int .i64 m.gives)).setCell (p := ⟨w.heap.size + 1, 3, none⟩) (by simp) (.slice a5 m.code.length c5)
    exact ⟨a1, c1, a5, c5, rfl, ⟨w1.heap.size, by omega, by have := hkk.size; have := HZ5.out; omega, (HV5.out.keep hkk (Nat.le_refl _)).weak (by omega) (Nat.le_refl _), ((CZ.of HC5.out).keep hkk hz1').weak (Nat.le_refl _) hkk.size⟩, hbb, front.weak (HC5.out.on (hkk.mono hz1')) (by omega)⟩
end Pg
end Go.Proofs.Ytdomclicgajihaa

/- Rows of methods and of classes, laid flat. -/
namespace Go.Proofs.Ytdomclicgajihaa
namespace Pg
open Go.ChangeShapes Go.WideShapes Go.ChangeAt Go.RowKit St

/-- The cells of a row of methods. -/
def flatM : List (Meth × Value × Value) → List Value
  | [] => []
  | x :: l => .int .i64 x.1.name :: x.2.1 :: .int .i64 x.1.gives :: x.2.2 :: flatM l
theorem flatM_len (l : List (Meth × Value × Value)) : (flatM l).length = l.length * 4 := by
  induction l with
  | nil => rfl
  | cons x l ih => simp only [flatM, List.length_cons, ih]; omega
theorem flatM_snoc (l : List (Meth × Value × Value)) (x : Meth × Value × Value) : flatM (l ++ [x]) = flatM l ++ [.int .i64 x.1.name, x.2.1, .int .i64 x.1.gives, x.2.2] := by
  induction l with
  | nil => rfl
  | cons y l ih => simp only [List.cons_append, flatM, ih]
theorem flatM_at : ∀ (l : List (Meth × Value × Value)) (j : Nat) (x : Meth × Value × Value), l[j]? = some x → (flatM l)[j * 4]? = some (.int .i64 x.1.name) ∧ (flatM l)[j * 4 + 1]? = some x.2.1 ∧ (flatM l)[j * 4 + 2]? = some (.int .i64 x.1.gives) ∧ (flatM l)[j * 4 + 3]? = some x.2.2
  | [], _, _, h => by simp at h
  | y :: l, 0, x, h => by simp at h; subst h; simp [flatM]
  | y :: l, j + 1, x, h => by
    have := flatM_at l j x (by simpa using h)
    rw [show (j + 1) * 4 = j * 4 + 1 + 1 + 1 + 1 from by omega, show j * 4 + 1 + 1 + 1 + 1 + 1 = j * 4 + 1 + 1 + 1 + 1 + 1 from rfl]
    simp only [flatM, List.getElem?_cons_succ]
    exact this
/-- The cells of a row of classes. -/
def flatK : List (Cls × Value × Value) → List Value
  | [] => []
  | x :: l => .int .i64 x.1.super :: x.2.1 :: x.2.2 :: flatK l
theorem flatK_len (l : List (Cls × Value × Value)) : (flatK l).length = l.length * 3 := by
  induction l with
  | nil => rfl
  | cons x l ih => simp only [flatK, List.length_cons, ih]; omega
theorem flatK_snoc (l : List (Cls × Value × Value)) (x : Cls × Value × Value) : flatK (l ++ [x]) = flatK l ++ [.int .i64 x.1.super, x.2.1, x.2.2] := by
  induction l with
  | nil => rfl
  | cons y l ih => simp only [List.cons_append, flatK, ih]
theorem flatK_at : ∀ (l : List (Cls × Value × Value)) (j : Nat) (x : Cls × Value × Value), l[j]? = some x → (flatK l)[j * 3]? = some (.int .i64 x.1.super) ∧ (flatK l)[j * 3 + 1]? = some x.2.1 ∧ (flatK l)[j * 3 + 2]? = some x.2.2
  | [], _, _, h => by simp at h
  | y :: l, 0, x, h => by simp at h; subst h; simp [flatK]
  | y :: l, j + 1, x, h => by
    have := flatK_at l j x (by simpa using h)
    rw [show (j + 1) * 3 = j * 3 + 1 + 1 + 1 from by omega]
    simp only [flatK, List.getElem?_cons_succ]
    exact this
/-- Slices take one cell. -/
theorem one_slice {v : Value} (h : ∃ a n c, v = .slice a n c) : v.oneCell' = true := by
  obtain ⟨a, n, c, rfl⟩ := h; rfl

/-- A row of methods whose parts stand. -/
theorem sm_of {S S' : Nat} {w : World} {v : Value} {ms : List Meth} {l : List (Meth × Value × Value)} (e : l.map (·.1) = ms) (hS : S ≤ S') (hown : w.ownsRow S' 52 4 v ms.length (flatM l)) (hd : ∀ x ∈ l, MV front S w x.2.1 x.2.2 x.1) : SM front S w v ms := by
  obtain ⟨h0, ⟨hv, hn⟩ | ⟨g, cap, cur, hv, hB, hblk, hle, hmx, hsz, htk⟩⟩ := hown
  · refine ⟨none, 0, by rw [hv, hn], fun _ _ => rfl, fun hp => by omega⟩
  · have hgw : g < w.heap.size := (Array.getElem?_eq_some_iff.1 hblk).1
    refine ⟨some ⟨g, 0, none⟩, cap, hv, fun _ h => by simp at h, fun hp => ⟨g, 0, rfl, (by omega), ⟨hgw, fun _ j hj => by simp [World.frozen?, hblk]⟩, fun j m hj => ?_⟩⟩
    obtain ⟨x, hx⟩ : ∃ x, l[j]? = some x := by
      rw [← e, List.getElem?_map] at hj
      cases hq : l[j]? with
      | none => rw [hq] at hj; simp at hj
      | some x => exact ⟨x, rfl⟩
    have hxm : x.1 = m := by rw [← e, List.getElem?_map, hx] at hj; simpa using hj
    have k2 := hd x (List.mem_of_getElem? hx)
    obtain ⟨a0, a1, a2, a3⟩ := flatM_at l j x hx
    have hcell : ∀ i u, (flatM l)[i]? = some u → w.cell? ⟨g, 0 + i, none⟩ = some u := fun i u hu => by
      have := World.ownsRow.cells (w := w) ⟨h0, .inr ⟨g, cap, cur, hv, hB, hblk, hle, hmx, hsz, htk⟩⟩ (g := g) (by rw [hv]; rfl) i u hu
      rwa [Go.WideShapes.add_plain] at this
    subst hxm
    refine ⟨x.2.1, x.2.2, ?_, ?_, ?_, ?_, k2⟩
    · have := hcell _ _ a0; rwa [Nat.zero_add] at this ⊢
    · have := hcell _ _ a1; rw [Nat.zero_add] at this ⊢; exact this
    · have := hcell _ _ a2; rw [Nat.zero_add] at this ⊢; exact this
    · have := hcell _ _ a3; rw [Nat.zero_add] at this ⊢; exact this
end Pg
end Go.Proofs.Ytdomclicgajihaa

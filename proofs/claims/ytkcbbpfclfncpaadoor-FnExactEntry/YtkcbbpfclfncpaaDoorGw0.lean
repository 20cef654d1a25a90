/- Appends onto a list of numbers of one's own, as a law of the walk; what they keep. -/
import Derived.Test.YtkcbbpfclfncpaaDoorPf0
import Derived.Laws.AppendOwnNone
namespace Go.Proofs.YtkcbbpfclfncpaaDoor
namespace Pg
open Go.ChangeShapes Go.WideShapes Go.ChangeAt Go.RowKit St

/-- A block of its own, of whatever type. -/
def BoxT (W : World) (b : Nat) (t : TypeId) (vs : Array Value) : Prop := W.heap[b]? = some (.cells vs t (0, 0))
theorem BoxT.lt {W : World} {b : Nat} {t : TypeId} {vs : Array Value} (h : BoxT W b t vs) : b < W.heap.size := (Array.getElem?_eq_some_iff.1 h).1
theorem BoxT.new (W : World) (t : TypeId) (vs : Array Value) : BoxT (W.alloc (.cells vs t)) W.heap.size t vs := heap_alloc_new W _
theorem BoxT.on {W W' : World} {b : Nat} {t : TypeId} {vs : Array Value} (h : BoxT W b t vs) (hb : Below W.heap.size W W') : BoxT W' b t vs := (hb.block b h.lt).trans h
theorem BoxT.kept {W W' : World} {row : Option Nat} {b : Nat} {t : TypeId} {vs : Array Value} (h : BoxT W b t vs) (hg : W.grownBy W' row) (hne : some b ≠ row) : BoxT W' b t vs := (hg.block b h.lt hne).trans h
theorem BoxT.not_row {W : World} {b : Nat} {t e : TypeId} {vs : Array Value} (h : BoxT W b t vs) (hte : t ≠ e) {base size k : Nat} {v : Value} {xs : List Value} (hr : W.ownsRow base e size v k xs) : some b ≠ v.ownBlock := by
  intro hb
  obtain ⟨_, ⟨rfl, _⟩ | ⟨g, cap, cur, rfl, _, hg, _⟩⟩ := hr
  · simp [Value.ownBlock] at hb
  · simp [Value.ownBlock] at hb
    subst hb
    have h' : W.heap[b]? = some (.cells vs t (0, 0)) := h
    rw [h'] at hg
    injection hg with hg
    injection hg with _ hg
    exact hte hg
theorem BoxT.cell {W : World} {b : Nat} {t : TypeId} {vs : Array Value} (h : BoxT W b t vs) {i : Nat} {x : Value} (hx : vs[i]? = some x) : W.cell? ⟨b, i, none⟩ = some x := by
  have h' : W.heap[b]? = some (.cells vs t (0, 0)) := h
  simp [World.cell?, h', hx]
/-- What an append onto a list of one's own keeps. -/
structure Kept (B : Nat) (W W' : World) : Prop where
  below : Below B W W'
  box : ∀ b t vs, t ≠ 2 → BoxT W b t vs → BoxT W' b t vs
theorem Kept.of {B : Nat} {W W' : World} (h : Below W.heap.size W W') (hB : B ≤ W.heap.size) : Kept B W W' := ⟨h.mono hB, fun _ _ _ _ h1 => h1.on h⟩
theorem Kept.refl (B : Nat) (W : World) : Kept B W W := ⟨Below.refl _ _, fun _ _ _ _ h => h⟩
theorem Kept.trans {B : Nat} {W W' W'' : World} (h : Kept B W W') (h' : Kept B W' W'') : Kept B W W'' := ⟨h.below.trans h'.below, fun b t vs ht hb => h'.box b t vs ht (h.box b t vs ht hb)⟩
theorem Kept.alloc {B : Nat} {W W' : World} (h : Kept B W W') (hB : B ≤ W.heap.size) (o : Obj) : Kept B W (W'.alloc o) := h.trans (Kept.of ((Below.refl _ _).alloc (Nat.le_refl _) _) (Nat.le_trans hB h.below.size))
theorem kept_grown {B : Nat} {W W' : World} {v : Value} {n : Nat} {xs : List Value} (hB : B ≤ W.heap.size) (hr : W.ownsRow B 2 1 v n xs) (hg : W.grownBy W' v.ownBlock) : Kept B W W' :=
  ⟨(Below.refl _ _).grown hg hB (fun k hk => (hr.lt k hk).1), fun _ _ _ ht hb => hb.kept hg (hb.not_row ht hr)⟩
theorem nums_app (l r : List Int) : nums (l ++ r) = nums l ++ nums r := by simp [nums]
theorem nums_length (l : List Int) : (nums l).length = l.length := by simp [nums]
theorem SI.none_nil {B : Nat} {w : World} {n cap : Nat} {l : List Int} (h : SI true B w (.slice none n cap) l) (hn : n = l.length) : l = [] ∧ n = 0 ∧ cap = 0 := by
  have hl : l = [] := by
    cases l with
    | nil => rfl
    | cons x l =>
      obtain ⟨b, o, he, _⟩ := SI.rows h (by simp)
      cases he
  subst hl
  subst hn
  refine ⟨rfl, rfl, ?_⟩
  rcases h with h | h
  all_goals simp_all
theorem grow_lit1 (w : World) (x : Int) : Grow w.heap.size (w.alloc (.cells #[.int .i64 x] 2)) (.slice (some ⟨w.heap.size, 0, none⟩) 1 1) [x] :=
  ⟨⟨by simp [nums], .inr ⟨w.heap.size, 1, _, rfl, Nat.le_refl _, heap_alloc_new w _, Nat.le_refl _, by decide, by simp, by simp [nums]⟩⟩, by simp⟩
theorem grow_lit2 (w : World) (x y : Int) : Grow w.heap.size (w.alloc (.cells #[.int .i64 x, .int .i64 y] 2)) (.slice (some ⟨w.heap.size, 0, none⟩) 2 2) [x, y] :=
  ⟨⟨by simp [nums], .inr ⟨w.heap.size, 2, _, rfl, Nat.le_refl _, heap_alloc_new w _, Nat.le_refl _, by decide, by simp, by simp [nums]⟩⟩, by simp⟩
theorem wpList_grow {w : World} {ops : Array Oper} {rest : List Oper} {o : Oper} {a : Act} {Q : Exit → Act → World → Prop} (hgd : o.guard = none) (s x : Operand)
    (ho : o.op = .call { callee := .builtin .append, args := #[s, x], argTypes := #[26, 26] })
    (B : Nat) (v : Value) (l : List Int) (hs : a.eval s = v) (hg : Grow B w v l) (hB : B ≤ w.heap.size)
    (z : Option Addr) (c B' : Nat) (r : List Int) (hx : a.eval x = .slice z r.length c) (hr : SI true B' w (.slice z r.length c) r) (hlen : l.length + r.length ≤ 1000)
    (h : ∀ v' w', Grow B w' v' (l ++ r) → Kept B w w' → wpList Tryd.prog ops Q rest (a.put o.dst v') w') : wpList Tryd.prog ops Q (o :: rest) a w := by
  obtain ⟨i0, hif, hz0, hz1, hz2⟩ := info_parts infoN
  cases z with
  | none =>
    obtain ⟨rfl, hn, rfl⟩ := SI.none_nil hr rfl
    refine wpList_append_own_none hgd s x 26 ho B 2 i0 1 Tryd.underlying26 hif v l.length (nums l) hs hg.1 hx ?_
    exact h v w (by rw [List.append_nil]; exact hg) (Kept.refl _ _)
  | some ad =>
    refine wpList_append_own w hgd s x 26 ho B 2 i0 (.int .i64 0) 1 8 Tryd.underlying26 hif hz0 hz1 hz2 rfl (by decide) v l.length (nums l) hs hg.1 ad r.length c (nums r) hx (by rw [nums_length, Nat.mul_one]) (SI.nums hr) (nums_one r) (by unfold maxLen; omega) (by omega) hB ?_
    intro v' w' hown hgrow hnil
    refine h v' w' ⟨?_, ?_⟩ (kept_grown hB hg.1 hgrow)
    · rw [List.length_append, nums_app]; exact hown
    · intro e; exact hg.2 (hnil.1 e).1

end Pg
end Go.Proofs.YtkcbbpfclfncpaaDoor

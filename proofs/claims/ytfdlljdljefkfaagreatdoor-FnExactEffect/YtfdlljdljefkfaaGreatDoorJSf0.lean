/- What a step makes of a state, told as the specification tells it: of plain data alone. -/
import Derived.Test.YtfdlljdljefkfaaGreatDoorJDk6
import Derived.Test.YtfdlljdljefkfaaGreatDoorJSe0
import Derived.Test.YtfdlljdljefkfaaGreatDoorJKs1
import Derived.Lib.QuietBelow
namespace Go.Proofs.YtfdlljdljefkfaaGreatDoor
namespace Pg
open Go.ChangeShapes Go.WideShapes Go.ChangeAt Go.RowKit St

theorem fit_m1 (p : Prg) (x : Int) : fitB p x (-1) = decide (x = -1) := by
  cases h : fitB p x (-1)
  · by_cases e : x = -1
    · subst e; rw [fit_refl] at h; cases h
    · rw [decide_eq_false e]
  · rcases (fit_iff p x (-1)).1 h with e | e | e | e
    · rw [decide_eq_true e]
    · omega
    · omega
    · omega
theorem tk_one (p : Prg) (st : List Int) (x : Int) : tkF p [x] st = if st.length < 1 then none else if fitB p (topF st 1) x then some (st.take (st.length - 1)) else none := by
  have := tk_snoc p [] st x
  rw [List.nil_append] at this
  rw [this]
  simp only [tk_nil]
theorem top_two (st : List Int) : topF (st.take (st.length - 1)) 1 = if st.length < 2 then topF (st.take (st.length - 1)) 1 else topF st 2 := by
  by_cases h2 : st.length < 2
  · rw [if_pos h2]
  · rw [if_neg h2]
    unfold topF
    have e : (st.take (st.length - 1)).length - 1 = st.length - 2 := by simp; omega
    rw [e, List.getD_eq_getElem?_getD, List.getD_eq_getElem?_getD, List.getElem?_take, if_pos (by omega)]
theorem tk_two (p : Prg) (st : List Int) (x y : Int) : tkF p [x, y] st = if st.length < 2 then none else if fitB p (topF st 1) y && fitB p (topF st 2) x then some (st.take (st.length - 2)) else none := by
  have h := tk_snoc p [x] st y
  rw [show [x] ++ [y] = [x, y] from rfl] at h
  rw [h]
  by_cases h2 : st.length < 2
  · rw [if_pos h2]
    by_cases h1 : st.length < 1
    · rw [if_pos h1]
    · rw [if_neg h1]
      split
      · rw [tk_one, if_pos (by simp; omega)]
      · rfl
  · have h1 : ¬ st.length < 1 := by omega
    have h3 : ¬ (st.take (st.length - 1)).length < 1 := by simp; omega
    rw [if_neg h1, if_neg h2, tk_one, if_neg h3, top_two st, if_neg h2]
    have e : (st.take (st.length - 1)).take ((st.take (st.length - 1)).length - 1) = st.take (st.length - 2) := by
      rw [List.take_take]; congr 1; simp; omega
    rw [e]
    cases fitB p (topF st 1) y <;> cases fitB p (topF st 2) x <;> rfl
/-- One that takes one and puts. -/
theorem tp_one (p : Prg) (s : Sta) (x : Int) (ks : List Int) : tpF p s [x] ks = if s.1.length < 1 ∨ fitB p (topF s.1 1) x = false then none else putF s.2 (s.1.take (s.1.length - 1)) ks := by
  unfold tpF
  rw [tk_one]
  by_cases h : s.1.length < 1
  · rw [if_pos h, if_pos (.inl h)]; rfl
  · rw [if_neg h]
    by_cases hf : fitB p (topF s.1 1) x = true
    · have h2 : ¬ (s.1.length < 1 ∨ fitB p (topF s.1 1) x = false) := by rw [hf]; simp; intro e; rw [e] at h; simp at h
      rw [if_pos hf, if_neg h2]; rfl
    · have h2 : s.1.length < 1 ∨ fitB p (topF s.1 1) x = false := .inr (by simpa using hf)
      rw [if_neg hf, if_pos h2]; rfl
theorem tp_two (p : Prg) (s : Sta) (x y : Int) (ks : List Int) : tpF p s [x, y] ks = if s.1.length < 2 ∨ (fitB p (topF s.1 1) y && fitB p (topF s.1 2) x) = false then none else putF s.2 (s.1.take (s.1.length - 2)) ks := by
  unfold tpF
  rw [tk_two]
  by_cases h : s.1.length < 2
  · rw [if_pos h, if_pos (.inl h)]; rfl
  · rw [if_neg h]
    by_cases hf : (fitB p (topF s.1 1) y && fitB p (topF s.1 2) x) = true
    · have h2 : ¬ (s.1.length < 2 ∨ (fitB p (topF s.1 1) y && fitB p (topF s.1 2) x) = false) := by rw [hf]; simp; omega
      rw [if_pos hf, if_neg h2]; rfl
    · have h2 : s.1.length < 2 ∨ (fitB p (topF s.1 1) y && fitB p (topF s.1 2) x) = false := .inr (by simpa using hf)
      rw [if_neg hf, if_pos h2]; rfl
theorem put_take (lo st ks : List Int) : putF lo (st.take st.length) ks = putF lo st ks := by rw [List.take_length]
theorem put_nil {lo st : List Int} {n : Nat} (h : st.length ≤ 8) : putF lo (st.take n) [] = some (st.take n, lo) := by
  unfold putF; rw [if_pos (by simp; omega), List.append_nil]
/-- The last ones fit, one by one. -/
theorem fitL_iff {p : Prg} {a b : List Int} : fitL p a b = true ↔ a.length = b.length ∧ ∀ j, j < a.length → fitB p (a.getD j 0) (b.getD j 0) = true := by
  constructor
  · intro h; exact ⟨fitL_len h, fun j _ => fitL_get h j⟩
  · rintro ⟨h1, h2⟩
    unfold fitL fitK
    rw [decide_eq_true h1, Bool.true_and, List.all_eq_true]
    intro j hj
    exact h2 j (List.mem_range.1 hj)
theorem drop_getD (st : List Int) (n j : Nat) : (st.drop n).getD j 0 = st.getD (n + j) 0 := by
  rw [List.getD_eq_getElem?_getD, List.getD_eq_getElem?_getD, List.getElem?_drop]
theorem tk_call (p : Prg) (st args : List Int) (c : Int) : tkF p (c :: args) st = if st.length < args.length + 1 then none else if fitB p (st.getD (st.length - args.length - 1) 0) c = true ∧ (∀ j, j < args.length → fitB p (st.getD (st.length - args.length - 1 + 1 + j) 0) (args.getD j 0) = true) then some (st.take (st.length - args.length - 1)) else none := by
  unfold tkF
  rw [List.length_cons]
  by_cases h : st.length < args.length + 1
  · rw [if_pos h, if_neg (by omega)]
  · rw [if_neg h]
    have e : st.length - (args.length + 1) = st.length - args.length - 1 := by omega
    rw [e]
    have hiff : (args.length + 1 ≤ st.length ∧ fitL p (st.drop (st.length - args.length - 1)) (c :: args) = true) ↔ (fitB p (st.getD (st.length - args.length - 1) 0) c = true ∧ (∀ j, j < args.length → fitB p (st.getD (st.length - args.length - 1 + 1 + j) 0) (args.getD j 0) = true)) := by
      rw [fitL_iff]
      constructor
      · rintro ⟨_, _, h2⟩
        have hl : (st.drop (st.length - args.length - 1)).length = args.length + 1 := by simp; omega
        refine ⟨?_, fun j hj => ?_⟩
        · have := h2 0 (by omega)
          rw [drop_getD] at this
          simpa using this
        · have := h2 (j + 1) (by omega)
          rw [drop_getD] at this
          have e2 : st.length - args.length - 1 + (j + 1) = st.length - args.length - 1 + 1 + j := by omega
          rw [e2] at this
          simpa using this
      · rintro ⟨h0, h1⟩
        refine ⟨by omega, by simp; omega, fun j hj => ?_⟩
        have hl : (st.drop (st.length - args.length - 1)).length = args.length + 1 := by simp; omega
        rw [drop_getD]
        cases j with
        | zero => simpa using h0
        | succ j =>
          have e2 : st.length - args.length - 1 + (j + 1) = st.length - args.length - 1 + 1 + j := by omega
          rw [e2]
          simpa using h1 j (by omega)
    by_cases hc : fitB p (st.getD (st.length - args.length - 1) 0) c = true ∧ (∀ j, j < args.length → fitB p (st.getD (st.length - args.length - 1 + 1 + j) 0) (args.getD j 0) = true)
    · rw [if_pos (hiff.2 hc), if_pos hc]
    · rw [if_neg (fun h => hc (hiff.1 h)), if_neg hc]
end Pg
end Go.Proofs.YtfdlljdljefkfaaGreatDoor

/- What the specification's effect of a step answers. -/
namespace Go.Proofs.YtfdlljdljefkfaaGreatDoor
namespace Pg
open Go.ChangeShapes Go.WideShapes Go.ChangeAt Go.RowKit St

def L7Post (o : Option Sta) (w : World) (e : Ending) (w' : World) : Prop :=
  ((∃ t x1 y1 x2 y2, o = some t ∧ e = .returned (.tuple #[.agg #[.slice x1 t.1.length y1, .slice x2 t.2.length y2], .bool true]) ∧ OwnS w.heap.size w' (.slice x1 t.1.length y1) (.slice x2 t.2.length y2) t) ∨
   (o = none ∧ ∃ x1 n1 y1 x2 n2 y2, e = .returned (.tuple #[.agg #[.slice x1 n1 y1, .slice x2 n2 y2], .bool false]))) ∧ Below w.heap.size w w'
theorem l7_end {o : Option Sta} {lo st ks : List Int} {w w' : World} {x1 x2 : Option Addr} {y1 y2 : Nat} (ho : o = putF lo st ks) (hown : OwnS w.heap.size w' (.slice x1 (st ++ ks).length y1) (.slice x2 lo.length y2) (st ++ ks, lo)) (hb : Below w.heap.size w w') :
    L7Post o w (.returned (.tuple #[.agg #[.slice x1 (st ++ ks).length y1, .slice x2 lo.length y2], .bool (decide ((st ++ ks).length ≤ 8))])) w' := by
  by_cases h : (st ++ ks).length ≤ 8
  · rw [decide_eq_true h]
    exact ⟨.inl ⟨(st ++ ks, lo), x1, y1, x2, y2, by rw [ho]; unfold putF; rw [if_pos h], rfl, hown⟩, hb⟩
  · rw [decide_eq_false h]
    exact ⟨.inr ⟨by rw [ho]; unfold putF; rw [if_neg h], x1, _, y1, x2, _, y2, rfl⟩, hb⟩
theorem si_base {B : Nat} {w : World} {v : Value} {l : List Int} (h : SI true B w v l) (h0 : 0 < l.length) : B ≤ w.heap.size := by
  obtain ⟨a, cap, _, _, hx⟩ := h
  obtain ⟨b, o, _, hB, ⟨hl, _⟩, _⟩ := hx h0
  omega
theorem get_kind {n : Nat} {l : List Int} (h : l.all (kindB n) = true) (hn : 0 < n) (j : Nat) : -3 ≤ l.getD j 0 ∧ l.getD j 0 < (n : Int) := by
  rw [List.getD_eq_getElem?_getD]
  by_cases hj : j < l.length
  · rw [List.getElem?_eq_getElem hj, Option.getD_some]
    have := List.all_eq_true.1 h _ (List.getElem_mem hj)
    simpa [kindB] using this
  · rw [List.getElem?_eq_none (by omega), Option.getD_none]; omega
theorem own_cell2 {B B' : Nat} {w : World} {sv lv : Value} {s : Sta} {r : Nat} {x y : Value} (h : OwnS B w sv lv s) (hr : r < B) (hB : B' ≤ B) : OwnS B' ((w.setCell ⟨r, 0, none⟩ x).setCell ⟨r, 1, none⟩ y) sv lv s :=
  ⟨ownBase (own_two h.1 hr) hB, ownBase (own_two h.2.1 hr) hB, h.2.2⟩
end Pg
end Go.Proofs.YtfdlljdljefkfaaGreatDoor

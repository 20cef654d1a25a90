/- Contracts of both sides' question whether a program and a class of it are right. -/
import Derived.Test.YtffkkhaiedhaiaaJPs1
import Derived.Test.YtffkkhaiedhaiaaJPf0
import Derived.Test.YtffkkhaiedhaiaaJMz1
import Derived.Laws.AppendOwnNone
namespace Go.Proofs.Ytffkkhaiedhaiaa
namespace Pg
open Go.ChangeShapes Go.WideShapes Go.ChangeAt Go.RowKit St

end Pg
end Go.Proofs.Ytffkkhaiedhaiaa

/- Contracts of both sides' FieldsOf. -/
namespace Go.Proofs.Ytffkkhaiedhaiaa
namespace Pg
open Go.ChangeShapes Go.WideShapes Go.ChangeAt Go.RowKit St

theorem Grow.base {B B' : Nat} {w : World} {v : Value} {l : List Int} (h : Grow B w v l) (hB : B' ≤ B) : Grow B' w v l := ⟨ownBase h.1 hB, h.2⟩
end Pg
end Go.Proofs.Ytffkkhaiedhaiaa

/- How a machine begins: rows of values that grow; the program's fresh frame and fresh object. -/
namespace Go.Proofs.Ytffkkhaiedhaiaa
namespace Pg
open Go.ChangeShapes Go.WideShapes Go.ChangeAt Go.RowKit St

def flatV (l : List Vl) : List Value := l.flatMap fun x => [.int .i64 x.1, .int .i64 x.2]
theorem flatV_len (l : List Vl) : (flatV l).length = l.length * 2 := by
  induction l with
  | nil => rfl
  | cons x l ih => simp only [flatV, List.flatMap_cons, List.length_append, List.length_cons, List.length_nil] at ih ⊢; omega
theorem flatV_app (l r : List Vl) : flatV (l ++ r) = flatV l ++ flatV r := by simp [flatV]
theorem flatV_one (l : List Vl) : ∀ u ∈ flatV l, u.oneCell' = true := by
  intro u hu
  obtain ⟨x, _, hx⟩ := List.mem_flatMap.1 hu
  simp at hx
  rcases hx with rfl | rfl <;> rfl
theorem flatV_at (l : List Vl) : ∀ (j : Nat) (x : Vl), l[j]? = some x → (flatV l)[j * 2]? = some (.int .i64 x.1) ∧ (flatV l)[j * 2 + 1]? = some (.int .i64 x.2) := by
  induction l with
  | nil => intro j x h; simp at h
  | cons y l ih =>
    intro j x h
    cases j with
    | zero => simp at h; subst h; simp [flatV]
    | succ j =>
      have h' : l[j]? = some x := by simpa using h
      obtain ⟨h0, h1⟩ := ih j x h'
      have e0 : (j + 1) * 2 = j * 2 + 1 + 1 := by omega
      rw [e0]
      simp only [flatV, List.flatMap_cons, List.cons_append, List.nil_append, List.getElem?_cons_succ] at h0 h1 ⊢
      exact ⟨h0, h1⟩
theorem flatV_get {l : List Vl} {j : Nat} {u : Value} (h : (flatV l)[j]? = some u) : ∃ x, l[j / 2]? = some x ∧ ((j % 2 = 0 ∧ u = .int .i64 x.1) ∨ (j % 2 = 1 ∧ u = .int .i64 x.2)) := by
  have hj : j < (flatV l).length := (List.getElem?_eq_some_iff.1 h).1
  rw [flatV_len] at hj
  have hk : j / 2 < l.length := by omega
  refine ⟨l[j / 2], List.getElem?_eq_getElem hk, ?_⟩
  obtain ⟨h0, h1⟩ := flatV_at l (j / 2) _ (List.getElem?_eq_getElem hk)
  rcases (show j % 2 = 0 ∨ j % 2 = 1 by omega) with e | e
  · left
    have : j / 2 * 2 = j := by omega
    rw [this, h] at h0
    exact ⟨e, by simpa using h0⟩
  · right
    have : j / 2 * 2 + 1 = j := by omega
    rw [this, h] at h1
    exact ⟨e, by simpa using h1⟩
def GrowV (B : Nat) (w : World) (v : Value) (l : List Vl) : Prop := w.ownsRow B 57 2 v l.length (flatV l) ∧ v ≠ .slice none 0 0
theorem GrowV.vz {B : Nat} {w : World} {v : Value} {l : List Vl} (h : GrowV B w v l) : VZ (fun k => B ≤ k ∧ k < w.heap.size) w v l := by
  obtain ⟨h, hv⟩ := h
  have hc := @World.ownsRow.cells w B 57 2 v l.length (flatV l) h
  have hlt := @World.ownsRow.lt w B 57 2 v l.length (flatV l) h
  obtain ⟨_, ⟨h, _⟩ | ⟨g, cap, cur, rfl, hB, hblk, hcap, hmax, hsz, _⟩⟩ := h
  · exact absurd h hv
  · refine .inl ⟨g, cap - l.length, by rw [Nat.add_sub_cancel' hcap], ⟨hB, (hlt g rfl).2⟩, (hlt g rfl).2, fun j x hj => ?_, fun j hj => ?_⟩
    · obtain ⟨h0, h1⟩ := flatV_at l j x hj
      have q0 := hc (g := g) rfl _ _ h0
      have q1 := hc (g := g) rfl _ _ h1
      rw [Go.WideShapes.add_plain, Nat.zero_add] at q0 q1
      exact ⟨q0, q1⟩
    · have hj2 : j < cur.size := by rw [hsz]; exact Nat.lt_of_lt_of_le hj (Nat.mul_le_mul_right _ hcap)
      exact ⟨⟨cur[j], by simp [World.cell?, hblk, hj2]⟩, by simp [World.frozen?, hblk]⟩
theorem GrowV.form {B : Nat} {w : World} {v : Value} {l : List Vl} (h : GrowV B w v l) : ∃ g cap, v = .slice (some ⟨g, 0, none⟩) l.length cap ∧ B ≤ g ∧ g < w.heap.size := by
  obtain ⟨h, hv⟩ := h
  have hlt := @World.ownsRow.lt w B 57 2 v l.length (flatV l) h
  obtain ⟨_, ⟨h, _⟩ | ⟨g, cap, cur, rfl, hB, _⟩⟩ := h
  · exact absurd h hv
  · exact ⟨g, cap, rfl, hB, (hlt g rfl).2⟩
theorem SV.flat {f : Bool} {B : Nat} {w : World} {b : Addr} {n cap : Nat} {l : List Vl} (h : SV f B w (.slice (some b) n cap) l) : ∀ j u, (flatV l)[j]? = some u → w.cell? (b.add j) = some u := by
  intro j u hu
  obtain ⟨x, hx, hc⟩ := flatV_get hu
  have hj : j / 2 < l.length := (List.getElem?_eq_some_iff.1 hx).1
  obtain ⟨b', o', he, _, d0, d1⟩ := h.get hj
  have hxe : l[j / 2] = x := by rw [List.getElem?_eq_getElem hj] at hx; simpa using hx
  rw [hxe] at d0 d1
  injection he with he
  subst he
  rw [Go.WideShapes.add_plain]
  rcases hc with ⟨e, rfl⟩ | ⟨e, rfl⟩
  · have : o' + j = o' + j / 2 * 2 := by omega
    rw [this]; exact d0
  · have : o' + j = o' + j / 2 * 2 + 1 := by omega
    rw [this]; exact d1
theorem own_formV {w : World} {B : Nat} {t : TypeId} {q : Nat} {v : Value} {n : Nat} {xs : List Value} (h : w.ownsRow B t q v n xs) : ∃ a cap, v = .slice a n cap ∧ n ≤ cap := by
  obtain ⟨_, ⟨rfl, rfl⟩ | ⟨g, cap, cur, rfl, _, _, hc, _⟩⟩ := h
  · exact ⟨_, _, rfl, Nat.le_refl _⟩
  · exact ⟨_, _, rfl, hc⟩
theorem lit_two (w : World) (x : Vl) (t : TypeId) : Hid (∀ (j : Nat) (u : Value), (flatV [x])[j]? = some u → (w.alloc (.cells #[.int .i64 x.1, .int .i64 x.2] t)).cell? ((⟨w.heap.size, 0, none⟩ : Addr).add j) = some u) := by
  show ∀ (j : Nat) (u : Value), _ → _
  intro j u hu
  rw [Go.WideShapes.add_plain, Nat.zero_add]
  match j with
  | 0 => simp [flatV] at hu; subst hu; simp [go_sem]
  | 1 => simp [flatV] at hu; subst hu; simp [go_sem]
  | j + 2 => simp [flatV] at hu
end Pg
end Go.Proofs.Ytffkkhaiedhaiaa

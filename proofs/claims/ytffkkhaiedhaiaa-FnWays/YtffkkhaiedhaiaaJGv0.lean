/- Contracts of both sides' FieldsOf. -/
import Derived.Test.YtffkkhaiedhaiaaJPr0
import Derived.Test.YtffkkhaiedhaiaaJPi0
import Derived.Laws.AppendOwnNone
import Derived.Test.YtffkkhaiedhaiaaJMv2
import Derived.Maps.AppendAt
namespace Go.Proofs.Ytffkkhaiedhaiaa
namespace Pg
open Go.ChangeShapes Go.WideShapes Go.ChangeAt Go.RowKit St

theorem fieldsF_split (p : Prg) (t : Int) : fieldsF p t = if okP p && inB p t then fieldsR p 6 t else [] := rfl
theorem Grow.base {B B' : Nat} {w : World} {v : Value} {l : List Int} (h : Grow B w v l) (hB : B' ≤ B) : Grow B' w v l := ⟨ownBase h.1 hB, h.2⟩
theorem grow_nil1 (w : World) (B : Nat) (hB : B ≤ w.heap.size) : Grow B (w.alloc (.cells #[] 2)) (.slice (some ⟨w.heap.size, 0, none⟩) 0 0) [] := by
  refine ⟨ownBase (B := w.heap.size) ?_ hB, by simp⟩
  have h : (w.alloc (.cells #[] 2)).ownsRow w.heap.size 2 1 (.slice (some ⟨w.heap.size, 0, none⟩) 0 0) 0 [] := World.ownsRow_made w #[] 0 (Nat.le_refl _) (by decide) (by simp)
  simpa [nums] using h

theorem fieldsF_len (p : Prg) (t : Int) : (fieldsF p t).length ≤ 24 := by
  unfold fieldsF
  split
  · rename_i h
    simp only [Bool.and_eq_true, decide_eq_true_eq] at h
    have hl := (okP_len h.1).2
    exact fieldsR_len (okP_sup h.1) hl (Nat.le_refl _) (okP_four h.1) 6 _ (by omega) h.2.2
  · simp
end Pg
end Go.Proofs.Ytffkkhaiedhaiaa

/- How a machine begins: rows of values that grow; the program's fresh frame and fresh object. -/
namespace Go.Proofs.Ytffkkhaiedhaiaa
namespace Pg
open Go.ChangeShapes Go.WideShapes Go.ChangeAt Go.RowKit St

def flatV (l : List Vl) : List Value := l.flatMap fun x => [.int .i64 x.1, .int .i64 x.2]
theorem flatV_len (l : List Vl) : (flatV l).length = l.length * 2 := by
  induction l with
  | nil => rfl
  | cons x l ih => simp only [flatV, List.flatMap_cons, List.length_append, List.length_cons, List.length_nil] at ih ⊢; omega
theorem flatV_app (l r : List Vl) : flatV (l ++ r) = flatV l ++ flatV r := by simp [flatV]
theorem flatV_one (l : List Vl) : ∀ u ∈ flatV l, u.oneCell' = true := by
  intro u hu
  obtain ⟨x, _, hx⟩ := List.mem_flatMap.1 hu
  simp at hx
  rcases hx with rfl | rfl <;> rfl
theorem flatV_at (l : List Vl) : ∀ (j : Nat) (x : Vl), l[j]? = some x → (flatV l)[j * 2]? = some (.int .i64 x.1) ∧ (flatV l)[j * 2 + 1]? = some (.int .i64 x.2) := by
  induction l with
  | nil => intro j x h; simp at h
  | cons y l ih =>
    intro j x h
    cases j with
    | zero => simp at h; subst h; simp [flatV]
    | succ j =>
      have h' : l[j]? = some x := by simpa using h
      obtain ⟨h0, h1⟩ := ih j x h'
      have e0 : (j + 1) * 2 = j * 2 + 1 + 1 := by omega
      rw [e0]
      simp only [flatV, List.flatMap_cons, List.cons_append, List.nil_append, List.getElem?_cons_succ] at h0 h1 ⊢
      exact ⟨h0, h1⟩
theorem flatV_get {l : List Vl} {j : Nat} {u : Value} (h : (flatV l)[j]? = some u) : ∃ x, l[j / 2]? = some x ∧ ((j % 2 = 0 ∧ u = .int .i64 x.1) ∨ (j % 2 = 1 ∧ u = .int .i64 x.2)) := by
  have hj : j < (flatV l).length := (List.getElem?_eq_some_iff.1 h).1
  rw [flatV_len] at hj
  have hk : j / 2 < l.length := by omega
  refine ⟨l[j / 2], List.getElem?_eq_getElem hk, ?_⟩
  obtain ⟨h0, h1⟩ := flatV_at l (j / 2) _ (List.getElem?_eq_getElem hk)
  rcases (show j % 2 = 0 ∨ j % 2 = 1 by omega) with e | e
  · left
    have : j / 2 * 2 = j := by omega
    rw [this, h] at h0
    exact ⟨e, by simpa using h0⟩
  · right
    have : j / 2 * 2 + 1 = j := by omega
    rw [this, h] at h1
    exact ⟨e, by simpa using h1⟩
def GrowV (B : Nat) (w : World) (v : Value) (l : List Vl) : Prop := w.ownsRow B 57 2 v l.length (flatV l) ∧ v ≠ .slice none 0 0
theorem GrowV.vz {B : Nat} {w : World} {v : Value} {l : List Vl} (h : GrowV B w v l) : VZ (fun k => B ≤ k ∧ k < w.heap.size) w v l := by
  obtain ⟨h, hv⟩ := h
  have hc := @World.ownsRow.cells w B 57 2 v l.length (flatV l) h
  have hlt := @World.ownsRow.lt w B 57 2 v l.length (flatV l) h
  obtain ⟨_, ⟨h, _⟩ | ⟨g, cap, cur, rfl, hB, hblk, hcap, hmax, hsz, _⟩⟩ := h
  · exact absurd h hv
  · refine .inl ⟨g, cap - l.length, by rw [Nat.add_sub_cancel' hcap], ⟨hB, (hlt g rfl).2⟩, (hlt g rfl).2, fun j x hj => ?_, fun j hj => ?_⟩
    · obtain ⟨h0, h1⟩ := flatV_at l j x hj
      have q0 := hc (g := g) rfl _ _ h0
      have q1 := hc (g := g) rfl _ _ h1
      rw [Go.WideShapes.add_plain, Nat.zero_add] at q0 q1
      exact ⟨q0, q1⟩
    · have hj2 : j < cur.size := by rw [hsz]; exact Nat.lt_of_lt_of_le hj (Nat.mul_le_mul_right _ hcap)
      exact ⟨⟨cur[j], by simp [World.cell?, hblk, hj2]⟩, by simp [World.frozen?, hblk]⟩
theorem GrowV.form {B : Nat} {w : World} {v : Value} {l : List Vl} (h : GrowV B w v l) : ∃ g cap, v = .slice (some ⟨g, 0, none⟩) l.length cap ∧ B ≤ g ∧ g < w.heap.size := by
  obtain ⟨h, hv⟩ := h
  have hlt := @World.ownsRow.lt w B 57 2 v l.length (flatV l) h
  obtain ⟨_, ⟨h, _⟩ | ⟨g, cap, cur, rfl, hB, _⟩⟩ := h
  · exact absurd h hv
  · exact ⟨g, cap, rfl, hB, (hlt g rfl).2⟩
theorem SV.flat {f : Bool} {B : Nat} {w : World} {b : Addr} {n cap : Nat} {l : List Vl} (h : SV f B w (.slice (some b) n cap) l) : ∀ j u, (flatV l)[j]? = some u → w.cell? (b.add j) = some u := by
  intro j u hu
  obtain ⟨x, hx, hc⟩ := flatV_get hu
  have hj : j / 2 < l.length := (List.getElem?_eq_some_iff.1 hx).1
  obtain ⟨b', o', he, _, d0, d1⟩ := h.get hj
  have hxe : l[j / 2] = x := by rw [List.getElem?_eq_getElem hj] at hx; simpa using hx
  rw [hxe] at d0 d1
  injection he with he
  subst he
  rw [Go.WideShapes.add_plain]
  rcases hc with ⟨e, rfl⟩ | ⟨e, rfl⟩
  · have : o' + j = o' + j / 2 * 2 := by omega
    rw [this]; exact d0
  · have : o' + j = o' + j / 2 * 2 + 1 := by omega
    rw [this]; exact d1
theorem own_formV {w : World} {B : Nat} {t : TypeId} {q : Nat} {v : Value} {n : Nat} {xs : List Value} (h : w.ownsRow B t q v n xs) : ∃ a cap, v = .slice a n cap ∧ n ≤ cap := by
  obtain ⟨_, ⟨rfl, rfl⟩ | ⟨g, cap, cur, rfl, _, _, hc, _⟩⟩ := h
  · exact ⟨_, _, rfl, Nat.le_refl _⟩
  · exact ⟨_, _, rfl, hc⟩
def slenV : Value → Nat
  | .slice _ n _ => n
  | _ => 0
theorem lit_two (w : World) (x : Vl) (t : TypeId) : Hid (∀ (j : Nat) (u : Value), (flatV [x])[j]? = some u → (w.alloc (.cells #[.int .i64 x.1, .int .i64 x.2] t)).cell? ((⟨w.heap.size, 0, none⟩ : Addr).add j) = some u) := by
  show ∀ (j : Nat) (u : Value), _ → _
  intro j u hu
  rw [Go.WideShapes.add_plain, Nat.zero_add]
  match j with
  | 0 => simp [flatV] at hu; subst hu; simp [go_sem]
  | 1 => simp [flatV] at hu; subst hu; simp [go_sem]
  | j + 2 => simp [flatV] at hu
end Pg
end Go.Proofs.Ytffkkhaiedhaiaa

/- An append onto a list of values of one's own: alone, and as one step of a statement that draws its order. -/
namespace Go.Proofs.Ytffkkhaiedhaiaa
namespace Pg
open Go.ChangeShapes Go.WideShapes Go.ChangeAt Go.RowKit St

theorem SV.none_nil {B : Nat} {w : World} {n cap : Nat} {l : List Vl} (h : SV true B w (.slice none n cap) l) (hn : n = l.length) : l = [] ∧ n = 0 ∧ cap = 0 := by
  obtain ⟨a, c, hv, h1, h2⟩ := h
  injection hv with e1 e2 e3
  subst e1
  subst e3
  have hl : l.length = 0 := by
    rcases Nat.eq_zero_or_pos l.length with h | h
    · exact h
    · obtain ⟨_, _, e, _⟩ := h2 h
      simp at e
  exact ⟨List.eq_nil_of_length_eq_zero hl, by omega, h1 rfl rfl⟩
theorem below_grownV {B : Nat} {w w' : World} {t : TypeId} {q n : Nat} {v : Value} {xs : List Value} (hB : B ≤ w.heap.size) (hr : w.ownsRow B t q v n xs) (hg : w.grownBy w' v.ownBlock) : Below B w w' := (Below.refl _ _).grown hg hB (fun k hk => (hr.lt k hk).1)
theorem stepGrowV (w : World) {ops : Array Oper} {o : Oper} {a : Act} {K : Act → World → Prop} {Q : Exit → Act → World → Prop} {E : Prop} (hgd : o.guard = none) (s x : Operand)
    (ho : o.op = .call { callee := .builtin .append, args := #[s, x], argTypes := #[47, 47] })
    (B g cv : Nat) (l : List Vl) (hs : a.eval s = .slice (some ⟨g, 0, none⟩) l.length cv) (hg : GrowV B w (.slice (some ⟨g, 0, none⟩) l.length cv) l) (hB : B ≤ w.heap.size)
    (z : Option Addr) (c B' : Nat) (r : List Vl) (hx : a.eval x = .slice z r.length c) (hr : SV true B' w (.slice z r.length c) r) (hlen : l.length + r.length ≤ 1000)
    (h : ∀ g' cv' w', GrowV B w' (.slice (some ⟨g', 0, none⟩) (l ++ r).length cv') (l ++ r) → Below B w w' → (∀ b, b ≠ g → b < w.heap.size → w'.heap[b]? = w.heap[b]?) → (g' = g ∨ g' = w.heap.size) → K (a.put o.dst (.slice (some ⟨g', 0, none⟩) (l ++ r).length cv')) w') : if Region.wanted o (yielded ops a.tmps) = true then Oper.wp Try.prog o a w K Q else E := by
  obtain ⟨i0, hif, hz0, hz1, hz2⟩ := info_parts infoValue
  cases z with
  | none =>
    obtain ⟨rfl, hn, rfl⟩ := SV.none_nil hr rfl
    refine stepAppNone w hgd s x 47 ho B 57 i0 2 Try.underlying47 hif _ l.length (flatV l) hs hg.1 hx ?_
    have := h g cv w (by rw [List.append_nil]; exact hg) (Below.refl _ _) (fun _ _ _ => rfl) (.inl rfl)
    rw [List.append_nil] at this
    exact this
  | some ad =>
    have hw : Region.wanted o (yielded ops a.tmps) = true := by simp [Region.wanted, hgd]
    rw [if_pos hw]
    obtain ⟨v', w', hr', h2, h3, h4, h5⟩ := run_append_own_at (P := Try.prog) w B 47 o.type 57 i0 (.agg #[.int .i64 0, .int .i64 0]) 2 16 Try.underlying47 hif hz0 hz1 hz2 rfl (by decide) (.slice (some ⟨g, 0, none⟩) l.length cv) l.length (flatV l) hg.1 ad r.length c (flatV r) (flatV_len r) (SV.flat hr) (flatV_one r) (by unfold maxLen; omega) (by omega) hB
    have hG : GrowV B w' v' (l ++ r) := ⟨by rw [List.length_append, flatV_app]; exact h2, fun e => hg.2 (h4.1 e).1⟩
    obtain ⟨g', cv', hv, _⟩ := hG.form
    unfold Oper.wp
    simp [execOp, ho, resolve, invoke, builtin, hs, hx, hr', Result.andThen]
    have := h g' cv' w' (by rw [← hv]; exact hG) (below_grownV hB hg.1 h3) (fun b hb hl => h3.block b hl (by simpa [Value.ownBlock] using hb)) (by rw [hv] at h5; simpa [Value.ownBlock] using h5)
    rw [← hv] at this
    exact this
theorem wpList_growV (w : World) {ops : Array Oper} {rest : List Oper} {o : Oper} {a : Act} {Q : Exit → Act → World → Prop} (hgd : o.guard = none) (s x : Operand)
    (ho : o.op = .call { callee := .builtin .append, args := #[s, x], argTypes := #[47, 47] })
    (B g cv : Nat) (l : List Vl) (hs : a.eval s = .slice (some ⟨g, 0, none⟩) l.length cv) (hg : GrowV B w (.slice (some ⟨g, 0, none⟩) l.length cv) l) (hB : B ≤ w.heap.size)
    (z : Option Addr) (c B' : Nat) (r : List Vl) (hx : a.eval x = .slice z r.length c) (hr : SV true B' w (.slice z r.length c) r) (hlen : l.length + r.length ≤ 1000)
    (h : ∀ g' cv' w', GrowV B w' (.slice (some ⟨g', 0, none⟩) (l ++ r).length cv') (l ++ r) → Below B w w' → (∀ b, b ≠ g → b < w.heap.size → w'.heap[b]? = w.heap[b]?) → (g' = g ∨ g' = w.heap.size) → wpList Try.prog ops Q rest (a.put o.dst (.slice (some ⟨g', 0, none⟩) (l ++ r).length cv')) w') : wpList Try.prog ops Q (o :: rest) a w := by
  obtain ⟨i0, hif, hz0, hz1, hz2⟩ := info_parts infoValue
  cases z with
  | none =>
    obtain ⟨rfl, hn, rfl⟩ := SV.none_nil hr rfl
    refine wpList_append_own_none hgd s x 47 ho B 57 i0 2 Try.underlying47 hif _ l.length (flatV l) hs hg.1 hx ?_
    have := h g cv w (by rw [List.append_nil]; exact hg) (Below.refl _ _) (fun _ _ _ => rfl) (.inl rfl)
    rw [List.append_nil] at this
    exact this
  | some ad =>
    refine wpList_append_own_at w hgd s x 47 ho B 57 i0 (.agg #[.int .i64 0, .int .i64 0]) 2 16 Try.underlying47 hif hz0 hz1 hz2 rfl (by decide) _ l.length (flatV l) hs hg.1 ad r.length c (flatV r) hx (flatV_len r) (SV.flat hr) (flatV_one r) (by unfold maxLen; omega) (by omega) hB ?_
    intro v' w' h2 h3 h4 h5
    have hG : GrowV B w' v' (l ++ r) := ⟨by rw [List.length_append, flatV_app]; exact h2, fun e => hg.2 (h4.1 e).1⟩
    obtain ⟨g', cv', hv, _⟩ := hG.form
    have := h g' cv' w' (by rw [← hv]; exact hG) (below_grownV hB hg.1 h3) (fun b hb hl => h3.block b hl (by simpa [Value.ownBlock] using hb)) (by rw [hv] at h5; simpa [Value.ownBlock] using h5)
    rw [← hv] at this
    exact this
/-- The empty list that 'append' begins with. -/
theorem growV_nil (w : World) : GrowV w.heap.size (w.alloc (.cells #[] 57)) (.slice (some ⟨w.heap.size, 0, none⟩) ([] : List Vl).length 0) [] := by
  refine ⟨?_, by simp⟩
  have h : (w.alloc (.cells #[] 57)).ownsRow w.heap.size 57 2 (.slice (some ⟨w.heap.size, 0, none⟩) 0 0) 0 [] := World.ownsRow_made w #[] 0 (Nat.le_refl _) (by decide) (by simp)
  simpa [flatV] using h
end Pg
end Go.Proofs.Ytffkkhaiedhaiaa

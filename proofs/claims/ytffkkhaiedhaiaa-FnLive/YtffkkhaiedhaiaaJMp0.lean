/- An append onto a list of values of one's own: alone, and as one step of a statement that draws its order. -/
import Derived.Test.YtffkkhaiedhaiaaJSd0
import Derived.Test.YtffkkhaiedhaiaaJPf0
import Derived.Maps.AppendAt
import Derived.Test.YtffkkhaiedhaiaaJMo3
import Derived.Test.YtffkkhaiedhaiaaJLo0
namespace Go.Proofs.Ytffkkhaiedhaiaa
namespace Pg
open Go.ChangeShapes Go.WideShapes Go.ChangeAt Go.RowKit St

theorem SV.none_nil {B : Nat} {w : World} {n cap : Nat} {l : List Vl} (h : SV true B w (.slice none n cap) l) (hn : n = l.length) : l = [] ∧ n = 0 ∧ cap = 0 := by
  obtain ⟨a, c, hv, h1, h2⟩ := h
  injection hv with e1 e2 e3
  subst e1
  subst e3
  have hl : l.length = 0 := by
    rcases Nat.eq_zero_or_pos l.length with h | h
    · exact h
    · obtain ⟨_, _, e, _⟩ := h2 h
      simp at e
  exact ⟨List.eq_nil_of_length_eq_zero hl, by omega, h1 rfl rfl⟩
theorem below_grownV {B : Nat} {w w' : World} {t : TypeId} {q n : Nat} {v : Value} {xs : List Value} (hB : B ≤ w.heap.size) (hr : w.ownsRow B t q v n xs) (hg : w.grownBy w' v.ownBlock) : Below B w w' := (Below.refl _ _).grown hg hB (fun k hk => (hr.lt k hk).1)
theorem stepGrowV (w : World) {ops : Array Oper} {o : Oper} {a : Act} {K : Act → World → Prop} {Q : Exit → Act → World → Prop} {E : Prop} (hgd : o.guard = none) (s x : Operand)
    (ho : o.op = .call { callee := .builtin .append, args := #[s, x], argTypes := #[47, 47] })
    (B g cv : Nat) (l : List Vl) (hs : a.eval s = .slice (some ⟨g, 0, none⟩) l.length cv) (hg : GrowV B w (.slice (some ⟨g, 0, none⟩) l.length cv) l) (hB : B ≤ w.heap.size)
    (z : Option Addr) (c B' : Nat) (r : List Vl) (hx : a.eval x = .slice z r.length c) (hr : SV true B' w (.slice z r.length c) r) (hlen : l.length + r.length ≤ 1000)
    (h : ∀ g' cv' w', GrowV B w' (.slice (some ⟨g', 0, none⟩) (l ++ r).length cv') (l ++ r) → Below B w w' → (∀ b, b ≠ g → b < w.heap.size → w'.heap[b]? = w.heap[b]?) → (g' = g ∨ g' = w.heap.size) → K (a.put o.dst (.slice (some ⟨g', 0, none⟩) (l ++ r).length cv')) w') : if Region.wanted o (yielded ops a.tmps) = true then Oper.wp Try.prog o a w K Q else E := by
  obtain ⟨i0, hif, hz0, hz1, hz2⟩ := info_parts infoValue
  cases z with
  | none =>
    obtain ⟨rfl, hn, rfl⟩ := SV.none_nil hr rfl
    refine stepAppNone w hgd s x 47 ho B 57 i0 2 Try.underlying47 hif _ l.length (flatV l) hs hg.1 hx ?_
    have := h g cv w (by rw [List.append_nil]; exact hg) (Below.refl _ _) (fun _ _ _ => rfl) (.inl rfl)
    rw [List.append_nil] at this
    exact this
  | some ad =>
    have hw : Region.wanted o (yielded ops a.tmps) = true := by simp [Region.wanted, hgd]
    rw [if_pos hw]
    obtain ⟨v', w', hr', h2, h3, h4, h5⟩ := run_append_own_at (P := Try.prog) w B 47 o.type 57 i0 (.agg #[.int .i64 0, .int .i64 0]) 2 16 Try.underlying47 hif hz0 hz1 hz2 rfl (by decide) (.slice (some ⟨g, 0, none⟩) l.length cv) l.length (flatV l) hg.1 ad r.length c (flatV r) (flatV_len r) (SV.flat hr) (flatV_one r) (by unfold maxLen; omega) (by omega) hB
    have hG : GrowV B w' v' (l ++ r) := ⟨by rw [List.length_append, flatV_app]; exact h2, fun e => hg.2 (h4.1 e).1⟩
    obtain ⟨g', cv', hv, _⟩ := hG.form
    unfold Oper.wp
    simp [execOp, ho, resolve, invoke, builtin, hs, hx, hr', Result.andThen]
    have := h g' cv' w' (by rw [← hv]; exact hG) (below_grownV hB hg.1 h3) (fun b hb hl => h3.block b hl (by simpa [Value.ownBlock] using hb)) (by rw [hv] at h5; simpa [Value.ownBlock] using h5)
    rw [← hv] at this
    exact this
theorem wpList_growV (w : World) {ops : Array Oper} {rest : List Oper} {o : Oper} {a : Act} {Q : Exit → Act → World → Prop} (hgd : o.guard = none) (s x : Operand)
    (ho : o.op = .call { callee := .builtin .append, args := #[s, x], argTypes := #[47, 47] })
    (B g cv : Nat) (l : List Vl) (hs : a.eval s = .slice (some ⟨g, 0, none⟩) l.length cv) (hg : GrowV B w (.slice (some ⟨g, 0, none⟩) l.length cv) l) (hB : B ≤ w.heap.size)
    (z : Option Addr) (c B' : Nat) (r : List Vl) (hx : a.eval x = .slice z r.length c) (hr : SV true B' w (.slice z r.length c) r) (hlen : l.length + r.length ≤ 1000)
    (h : ∀ g' cv' w', GrowV B w' (.slice (some ⟨g', 0, none⟩) (l ++ r).length cv') (l ++ r) → Below B w w' → (∀ b, b ≠ g → b < w.heap.size → w'.heap[b]? = w.heap[b]?) → (g' = g ∨ g' = w.heap.size) → wpList Try.prog ops Q rest (a.put o.dst (.slice (some ⟨g', 0, none⟩) (l ++ r).length cv')) w') : wpList Try.prog ops Q (o :: rest) a w := by
  obtain ⟨i0, hif, hz0, hz1, hz2⟩ := info_parts infoValue
  cases z with
  | none =>
    obtain ⟨rfl, hn, rfl⟩ := SV.none_nil hr rfl
    refine wpList_append_own_none hgd s x 47 ho B 57 i0 2 Try.underlying47 hif _ l.length (flatV l) hs hg.1 hx ?_
    have := h g cv w (by rw [List.append_nil]; exact hg) (Below.refl _ _) (fun _ _ _ => rfl) (.inl rfl)
    rw [List.append_nil] at this
    exact this
  | some ad =>
    refine wpList_append_own_at w hgd s x 47 ho B 57 i0 (.agg #[.int .i64 0, .int .i64 0]) 2 16 Try.underlying47 hif hz0 hz1 hz2 rfl (by decide) _ l.length (flatV l) hs hg.1 ad r.length c (flatV r) hx (flatV_len r) (SV.flat hr) (flatV_one r) (by unfold maxLen; omega) (by omega) hB ?_
    intro v' w' h2 h3 h4 h5
    have hG : GrowV B w' v' (l ++ r) := ⟨by rw [List.length_append, flatV_app]; exact h2, fun e => hg.2 (h4.1 e).1⟩
    obtain ⟨g', cv', hv, _⟩ := hG.form
    have := h g' cv' w' (by rw [← hv]; exact hG) (below_grownV hB hg.1 h3) (fun b hb hl => h3.block b hl (by simpa [Value.ownBlock] using hb)) (by rw [hv] at h5; simpa [Value.ownBlock] using h5)
    rw [← hv] at this
    exact this
/-- The empty list that 'append' begins with. -/
theorem growV_nil (w : World) : GrowV w.heap.size (w.alloc (.cells #[] 57)) (.slice (some ⟨w.heap.size, 0, none⟩) ([] : List Vl).length 0) [] := by
  refine ⟨?_, by simp⟩
  have h : (w.alloc (.cells #[] 57)).ownsRow w.heap.size 57 2 (.slice (some ⟨w.heap.size, 0, none⟩) 0 0) 0 [] := World.ownsRow_made w #[] 0 (Nat.le_refl _) (by decide) (by simp)
  simpa [flatV] using h
end Pg
end Go.Proofs.Ytffkkhaiedhaiaa

/- A machine of one's own in its block, all its parts named: one object more, one frame more. -/
namespace Go.Proofs.Ytffkkhaiedhaiaa
namespace Pg
open Go.ChangeShapes Go.WideShapes Go.ChangeAt Go.RowKit St

variable {B M : Nat} {u w : World} {vh vf vs : Value} {m : Mc} {ch cf : List (List Value)} {Th Tf : Nat → Nat → Nat → Prop}
structure MX (B M : Nat) (w : World) (m : Mc) (vh vf vs : Value) (ch cf : List (List Value)) (Th Tf : Nat → Nat → Nat → Prop) : Prop where
  cells : Cells w M [vh, vf, vs, .int .i64 m.fin, .int .i64 m.code]
  low : B ≤ M
  own : MOwn B w vh vf vs m ch cf Th Tf
  ne : ∀ k, Blk vh Th k ∨ Blk vf Tf k ∨ vs.ownBlock = some k → k ≠ M
theorem MX.on (h : MX B M u m vh vf vs ch cf Th Tf) (hb : Below u.heap.size u w) : MX B M w m vh vf vs ch cf Th Tf := ⟨h.cells.on hb, h.low, h.own.on hb, h.ne⟩
theorem MX.mlt (h : MX B M w m vh vf vs ch cf Th Tf) : M < w.heap.size := cell_lt h.cells.g0.1
theorem MX.st (h : MX B M w m vh vf vs ch cf Th Tf) : MSt B M w m := ⟨vh, vf, vs, ch, cf, Th, Tf, h.cells, h.low, h.own, h.ne⟩
theorem MX.new (h : MX B M u m vh vf vs ch cf Th Tf) (hB : B ≤ u.heap.size) (hb : Below u.heap.size u w) {w' : World} {v' y : Value} {o : Ob} (hV : VZ (fun k => u.heap.size ≤ k ∧ k < w.heap.size) w y o.flds)
    (hown : w'.ownsRow B 118 2 v' (m.heap.length + 1) ((recs recO m.heap ch).flatten ++ [.int .i64 o.cls, y])) (hgr : w.grownBy w' vh.ownBlock) (hv' : v'.ownBlock = vh.ownBlock ∨ v'.ownBlock = some w.heap.size) :
    ∃ ch' Th', MX B M (w'.setCell ⟨M, 0, none⟩ v') { m with heap := m.heap ++ [o] } v' vf vs ch' cf Th' Tf := by
  have hw := h.on hb
  have hsz : w.heap.size ≤ w'.heap.size := hgr.size
  have hz : (w'.setCell ⟨M, 0, none⟩ v').heap.size = w'.heap.size := by simp
  have hMs : vh.ownBlock ≠ some M := fun e => h.ne M (.inl (.inl e)) rfl
  have hMv : v'.ownBlock ≠ some M := by
    rcases hv' with e | e
    · rw [e]; exact hMs
    · rw [e]; intro e'; injection e' with e'; have := hw.mlt; omega
  have happ := hw.own.h.app (R := recO) (x := o) (ys := [y]) (U := fun j k => j = 0 ∧ u.heap.size ≤ k ∧ k < w.heap.size) (w := w') (v' := v') hown hgr hv' rfl
    (fun j rr z hr hzz => by
      cases j with
      | zero =>
        simp [recO] at hr hzz
        subst hr hzz
        exact hV.weak fun k hk => ⟨rfl, hk⟩
      | succ j => simp at hzz)
    (fun j k hk => ⟨hk.2.2, fun e => by have := (h.own.h.own.lt k e).2; omega, fun i j' ht => by have := h.own.h.lt i j' k ht; omega⟩)
    (fun j j' k hk hk' => hk.1.trans hk'.1.symm)
  have hTm : ∀ i j k, (if i = m.heap.length then (j = 0 ∧ u.heap.size ≤ k ∧ k < w.heap.size) else Th i j k) → k ≠ M := fun i j k hk => by
    split at hk
    · have := h.mlt; omega
    · exact h.ne k (.inl (.inr ⟨i, j, hk⟩))
  refine ⟨ch ++ [[y]], fun i j k => if i = m.heap.length then (j = 0 ∧ u.heap.size ≤ k ∧ k < w.heap.size) else Th i j k, ?_, h.low, ?_, fun k hk => ?_⟩
  · have hc : Cells w' M [vh, vf, vs, .int .i64 m.fin, .int .i64 m.code] := fun i x hx => by
      obtain ⟨a, b⟩ := hw.cells i x hx
      have e := hgr.block M hw.mlt fun e => hMs e.symm
      exact ⟨(World.cell?_of_block (w := w) e).trans a, (World.frozen?_of_block (w := w) e).trans b⟩
    exact hc.s0 _
  · refine h.own.withH hB (by rw [hz]; exact Nat.le_trans hb.size hsz) (happ.moved (by rw [hz]; exact Nat.le_refl _) (fun g hg => set_blocks w' _ _ g fun e => hMv (by rw [hg, ← e])) (fun i j k hk => set_blocks w' _ _ k fun e => hTm i j k hk e.symm)) (fun k hk => ?_) (fun k hk => ?_)
    · have hkl := h.own.lt k (hk.elim (fun h => .inr (.inl h)) fun h => .inr (.inr h))
      rw [set_blocks w' _ _ k (fun e => h.ne k (hk.elim (fun h => .inr (.inl h)) fun h => .inr (.inr h)) e.symm), hgr.block k (Nat.lt_of_lt_of_le hkl hb.size) (fun e => ?_)]
      · exact hb.block k hkl
      · rcases hk with hk | hk
        · exact h.own.hf k (.inl e.symm) hk
        · exact h.own.hs k (.inl e.symm) hk
    · rcases hk with hk | ⟨i, j, hk⟩
      · rcases hv' with e | e
        · rw [e] at hk; exact .inl (.inl hk)
        · rw [e] at hk; injection hk with hk; have := hb.size; exact .inr (by omega)
      · split at hk
        · exact .inr hk.2.1
        · exact .inl (.inr ⟨_, _, hk⟩)
  · rcases hk with (hk | ⟨i, j, hk⟩) | hk | hk
    · exact fun e => hMv (by rw [hk, e])
    · exact hTm i j k hk
    · exact h.ne k (.inr (.inl hk))
    · exact h.ne k (.inr (.inr hk))
theorem MX.more (h : MX B M u m vh vf vs ch cf Th Tf) (hB : B ≤ u.heap.size) (hb : Below u.heap.size u w) {w' : World} {v' y0 y1 : Value} {x : Fr} {N : Nat} (hN : u.heap.size ≤ N) (hNw : N ≤ w.heap.size) (hV0 : VZ (fun k => u.heap.size ≤ k ∧ k < N) w y0 x.stk) (hV1 : VZ (fun k => N ≤ k ∧ k < w.heap.size) w y1 x.loc)
    (hown : w'.ownsRow B 49 5 v' (m.frames.length + 1) ((recs recF m.frames cf).flatten ++ [.int .i64 x.cls, .int .i64 x.name, .int .i64 x.pos, y0, y1])) (hgr : w.grownBy w' vf.ownBlock) (hv' : v'.ownBlock = vf.ownBlock ∨ v'.ownBlock = some w.heap.size) :
    ∃ cf' Tf', MX B M (w'.setCell ⟨M, 1, none⟩ v') { m with frames := m.frames ++ [x] } vh v' vs ch cf' Th Tf' := by
  have hw := h.on hb
  have hsz : w.heap.size ≤ w'.heap.size := hgr.size
  have hz : (w'.setCell ⟨M, 1, none⟩ v').heap.size = w'.heap.size := by simp
  have hMs : vf.ownBlock ≠ some M := fun e => h.ne M (.inr (.inl (.inl e))) rfl
  have hMv : v'.ownBlock ≠ some M := by
    rcases hv' with e | e
    · rw [e]; exact hMs
    · rw [e]; intro e'; injection e' with e'; have := hw.mlt; omega
  have happ := hw.own.f.app (R := recF) (x := x) (ys := [y0, y1]) (U := fun j k => (j = 0 ∧ u.heap.size ≤ k ∧ k < N) ∨ (j = 1 ∧ N ≤ k ∧ k < w.heap.size)) (w := w') (v' := v') hown hgr hv' rfl
    (fun j rr z hr hzz => by
      match j, hr, hzz with
      | 0, hr, hzz =>
        simp [recF] at hr hzz
        subst hr hzz
        exact hV0.weak fun k hk => .inl ⟨rfl, hk⟩
      | 1, hr, hzz =>
        simp [recF] at hr hzz
        subst hr hzz
        exact hV1.weak fun k hk => .inr ⟨rfl, hk⟩
      | j + 2, hr, hzz => simp at hzz)
    (fun j k hk => by
      have hku : u.heap.size ≤ k ∧ k < w.heap.size := by omega
      exact ⟨hku.2, fun e => by have := (h.own.f.own.lt k e).2; omega, fun i j' ht => by have := h.own.f.lt i j' k ht; omega⟩)
    (fun j j' k hk hk' => by omega)
  have hTm : ∀ i j k, (if i = m.frames.length then ((j = 0 ∧ u.heap.size ≤ k ∧ k < N) ∨ (j = 1 ∧ N ≤ k ∧ k < w.heap.size)) else Tf i j k) → k ≠ M := fun i j k hk => by
    split at hk
    · have := h.mlt; omega
    · exact h.ne k (.inr (.inl (.inr ⟨i, j, hk⟩)))
  refine ⟨cf ++ [[y0, y1]], fun i j k => if i = m.frames.length then ((j = 0 ∧ u.heap.size ≤ k ∧ k < N) ∨ (j = 1 ∧ N ≤ k ∧ k < w.heap.size)) else Tf i j k, ?_, h.low, ?_, fun k hk => ?_⟩
  · have hc : Cells w' M [vh, vf, vs, .int .i64 m.fin, .int .i64 m.code] := fun i x hx => by
      obtain ⟨a, b⟩ := hw.cells i x hx
      have e := hgr.block M hw.mlt fun e => hMs e.symm
      exact ⟨(World.cell?_of_block (w := w) e).trans a, (World.frozen?_of_block (w := w) e).trans b⟩
    exact hc.s1 _
  · refine h.own.withF hB (by rw [hz]; exact Nat.le_trans hb.size hsz) (happ.moved (by rw [hz]; exact Nat.le_refl _) (fun g hg => set_blocks w' _ _ g fun e => hMv (by rw [hg, ← e])) (fun i j k hk => set_blocks w' _ _ k fun e => hTm i j k hk e.symm)) (fun k hk => ?_) (fun k hk => ?_)
    · have hkl := h.own.lt k (hk.elim .inl fun h => .inr (.inr h))
      rw [set_blocks w' _ _ k (fun e => h.ne k (hk.elim .inl fun h => .inr (.inr h)) e.symm), hgr.block k (Nat.lt_of_lt_of_le hkl hb.size) (fun e => ?_)]
      · exact hb.block k hkl
      · rcases hk with hk | hk
        · exact h.own.hf k hk (.inl e.symm)
        · exact h.own.fs k (.inl e.symm) hk
    · rcases hk with hk | ⟨i, j, hk⟩
      · rcases hv' with e | e
        · rw [e] at hk; exact .inl (.inl hk)
        · rw [e] at hk; injection hk with hk; have := hb.size; exact .inr (by omega)
      · split at hk
        · exact .inr (by omega)
        · exact .inl (.inr ⟨_, _, hk⟩)
  · rcases hk with hk | (hk | ⟨i, j, hk⟩) | hk
    · exact h.ne k (.inl hk)
    · exact fun e => hMv (by rw [hk, e])
    · exact hTm i j k hk
    · exact h.ne k (.inr (.inr hk))
theorem OwnRc.base {α : Type} {R : RecT α} {B B' : Nat} {w : World} {v : Value} {l : List α} {c : List (List Value)} {T : Nat → Nat → Nat → Prop} (h : OwnRc R B w v l c T) (hB : B' ≤ B) : OwnRc R B' w v l c T := ⟨h.len, ownBase h.own hB, h.off, h.lt, h.one, h.wid, h.row⟩
theorem MOwn.base {B' : Nat} (h : MOwn B w vh vf vs m ch cf Th Tf) (hB : B' ≤ B) : MOwn B' w vh vf vs m ch cf Th Tf := ⟨h.h.base hB, h.f.base hB, ownBase h.s hB, h.hf, h.hs, h.fs, fun k hk => Nat.le_trans hB (h.low k hk)⟩
theorem SI.none_nilI {B : Nat} {w : World} {n cap : Nat} {l : List Int} (h : SI true B w (.slice none n cap) l) (_hn : n = l.length) : l = [] ∧ n = 0 ∧ cap = 0 := by
  obtain ⟨h1, h2, h3⟩ := Arr.nil h
  exact ⟨h1, h2, h3⟩
theorem stepGrowI (w : World) {ops : Array Oper} {o : Oper} {a : Act} {K : Act → World → Prop} {Q : Exit → Act → World → Prop} {E : Prop} (hgd : o.guard = none) (s x : Operand)
    (ho : o.op = .call { callee := .builtin .append, args := #[s, x], argTypes := #[27, 27] })
    (B g cv : Nat) (hs : a.eval s = .slice (some ⟨g, 0, none⟩) 0 cv) (hg : Grow B w (.slice (some ⟨g, 0, none⟩) 0 cv) []) (hB : B ≤ w.heap.size)
    (z : Option Addr) (c B' : Nat) (r : List Int) (hx : a.eval x = .slice z r.length c) (hr : SI true B' w (.slice z r.length c) r) (hlen : r.length ≤ 30000)
    (h : ∀ g' cv' w', Grow B w' (.slice (some ⟨g', 0, none⟩) r.length cv') r → Below B w w' → (∀ b, b ≠ g → b < w.heap.size → w'.heap[b]? = w.heap[b]?) → (g' = g ∨ g' = w.heap.size) → K (a.put o.dst (.slice (some ⟨g', 0, none⟩) r.length cv')) w') : if Region.wanted o (yielded ops a.tmps) = true then Oper.wp Try.prog o a w K Q else E := by
  obtain ⟨i0, hif, hz0, hz1, hz2⟩ := info_parts infoN
  cases z with
  | none =>
    obtain ⟨rfl, hn, rfl⟩ := SI.none_nilI hr rfl
    refine stepAppNone w hgd s x 27 ho B 2 i0 1 Try.underlying27 hif _ 0 (nums []) hs hg.1 hx ?_
    exact h g cv w hg (Below.refl _ _) (fun _ _ _ => rfl) (.inl rfl)
  | some ad =>
    have hw : Region.wanted o (yielded ops a.tmps) = true := by simp [Region.wanted, hgd]
    rw [if_pos hw]
    obtain ⟨v', w', hr', h2, h3, h4, h5⟩ := run_append_own_at (P := Try.prog) w B 27 o.type 2 i0 (.int .i64 0) 1 8 Try.underlying27 hif hz0 hz1 hz2 rfl (by decide) (.slice (some ⟨g, 0, none⟩) 0 cv) 0 (nums []) hg.1 ad r.length c (nums r) (by simp [nums]) (SI.nums hr) (nums_one r) (by unfold maxLen; omega) (by omega) hB
    have hG : Grow B w' v' r := ⟨by simpa [nums] using h2, fun e => hg.2 (h4.1 e).1⟩
    obtain ⟨g', cv', hv⟩ := growForm hG
    unfold Oper.wp
    simp [execOp, ho, resolve, invoke, builtin, hs, hx, hr', Result.andThen]
    have := h g' cv' w' (by rw [← hv]; exact hG) (below_grownV hB hg.1 h3) (fun b hb hl => h3.block b hl (by simpa [Value.ownBlock] using hb)) (by rw [hv] at h5; simpa [Value.ownBlock] using h5)
    rw [← hv] at this
    exact this
end Pg
end Go.Proofs.Ytffkkhaiedhaiaa

/- A machine of one's own and its last frame: read, and changed in place. -/
namespace Go.Proofs.Ytffkkhaiedhaiaa
namespace Pg
open Go.ChangeShapes Go.WideShapes Go.ChangeAt Go.RowKit St

variable {B M G fcap : Nat} {u w : World} {vh vs vS vL : Value} {m : Mc} {n q : Nat} {f : Fr} {ch cf : List (List Value)} {Th Tf : Nat → Nat → Nat → Prop}
/-- A machine in its block M whose frames lie in G, f being the last one. -/
structure Tp (B M : Nat) (w : World) (m : Mc) (n q : Nat) (f : Fr) (G fcap : Nat) (vS vL vh vs : Value) (ch cf : List (List Value)) (Th Tf : Nat → Nat → Nat → Prop) : Prop where
  cells : Cells w M [vh, .slice (some ⟨G, 0, none⟩) n fcap, vs, .int .i64 m.fin, .int .i64 m.code]
  low : B ≤ M
  own : MOwn B w vh (.slice (some ⟨G, 0, none⟩) n fcap) vs m ch cf Th Tf
  ne : ∀ k, Blk vh Th k ∨ Blk (.slice (some ⟨G, 0, none⟩) n fcap) Tf k ∨ vs.ownBlock = some k → k ≠ M
  len : m.frames.length = n
  at' : m.frames[q]? = some f
  row : cf[q]? = some [vS, vL]
theorem own_form {q n : Nat} {t : TypeId} {v : Value} {xs : List Value} (h : w.ownsRow B t q v n xs) (hn : n ≠ 0) : ∃ g cap, v = .slice (some ⟨g, 0, none⟩) n cap := by
  obtain ⟨_, ⟨_, h0⟩ | ⟨g, cap, cur, hv, _⟩⟩ := h
  · exact absurd h0 hn
  · exact ⟨g, cap, hv⟩
theorem MSt.tp (h : MSt B M w m) (hf : m.frames[q]? = some f) : ∃ G fcap vS vL vh vs ch cf Th Tf, Tp B M w m m.frames.length q f G fcap vS vL vh vs ch cf Th Tf := by
  obtain ⟨vh, vf, vs, ch, cf, Th, Tf, hC, hBM, hO, hNe⟩ := h
  have hl := (List.getElem?_eq_some_iff.1 hf).1
  obtain ⟨G, fcap, rfl⟩ := own_form hO.f.own (by omega)
  have hc := List.getElem?_eq_getElem (show q < cf.length by rw [hO.f.len]; omega)
  obtain ⟨y, z, hyz⟩ := two_of (hO.f.wid _ _ hc)
  rw [hyz] at hc
  exact ⟨G, fcap, y, z, vh, vs, ch, cf, Th, Tf, ⟨hC, hBM, hO, hNe, rfl, hf, hc⟩⟩
theorem Tp.st (h : Tp B M w m n q f G fcap vS vL vh vs ch cf Th Tf) : MSt B M w m := ⟨vh, _, vs, ch, cf, Th, Tf, h.cells, h.low, h.own, h.ne⟩
theorem Tp.on (h : Tp B M u m n q f G fcap vS vL vh vs ch cf Th Tf) (hb : Below u.heap.size u w) : Tp B M w m n q f G fcap vS vL vh vs ch cf Th Tf := ⟨h.cells.on hb, h.low, h.own.on hb, h.ne, h.len, h.at', h.row⟩
theorem Tp.last (h : Tp B M w m n q f G fcap vS vL vh vs ch cf Th Tf) : m.frames[q]? = some f := h.at'
theorem set_at {l : List Fr} {x y : Fr} (h : l[q]? = some x) : (l.set q y)[q]? = some y := by
  rw [List.getElem?_set, if_pos rfl, if_pos (List.getElem?_eq_some_iff.1 h).1]
theorem Tp.mlt (h : Tp B M w m n q f G fcap vS vL vh vs ch cf Th Tf) : M < w.heap.size := cell_lt h.cells.g0.1
theorem Tp.glt (h : Tp B M w m n q f G fcap vS vL vh vs ch cf Th Tf) : G < w.heap.size := (h.own.f.own.lt G rfl).2
theorem Tp.gm (h : Tp B M w m n q f G fcap vS vL vh vs ch cf Th Tf) : G ≠ M := h.ne G (.inr (.inl (.inl rfl)))
theorem Tp.cell (h : Tp B M w m n q f G fcap vS vL vh vs ch cf Th Tf) {d : Nat} (hd : d < 5) : w.cell? ⟨G, q * 5 + d, none⟩ = [.int .i64 f.cls, .int .i64 f.name, .int .i64 f.pos, vS, vL][d]? := h.own.f.cell h.last h.row (d := d) hd
theorem Tp.frz (h : Tp B M w m n q f G fcap vS vL vh vs ch cf Th Tf) (o : Nat) : w.frozen? ⟨G, o, none⟩ = false := by
  obtain ⟨_, ⟨e, _⟩ | ⟨g, cap, cur, e, _, h4, _⟩⟩ := h.own.f.own
  · cases e
  · injection e with e _ _
    injection e with e
    injection e with e
    subst e
    simp [World.frozen?, h4]
theorem Tp.stk (h : Tp B M w m n q f G fcap vS vL vh vs ch cf Th Tf) : VZ (Tf q 0) w vS f.stk := h.own.f.row _ f _ h.last h.row 0 f.stk vS rfl rfl
theorem Tp.loc (h : Tp B M w m n q f G fcap vS vL vh vs ch cf Th Tf) : VZ (Tf q 1) w vL f.loc := h.own.f.row _ f _ h.last h.row 1 f.loc vL rfl rfl
/-- The last frame's place. -/
theorem Tp.setPos (h : Tp B M w m n q f G fcap vS vL vh vs ch cf Th Tf) (hB : B ≤ w.heap.size) (x : Int) :
    Tp B M (w.setCell ⟨G, q * 5 + 2, none⟩ (.int .i64 x)) { m with frames := m.frames.set q { f with pos := x } } n q { f with pos := x } G fcap vS vL vh vs ch cf Th Tf := by
  have hf := h.own.f.setHd h.last (x' := { f with pos := x }) (d := 2) (show 2 < 3 by omega) (y := .int .i64 x) rfl rfl
  have hz : (w.setCell ⟨G, q * 5 + 2, none⟩ (.int .i64 x)).heap.size = w.heap.size := by simp
  refine ⟨h.cells.far _ _ (by simpa using h.gm), h.low, ?_, h.ne, by simpa using h.len, set_at h.at', h.row⟩
  refine h.own.withF hB (by rw [hz]; exact Nat.le_refl _) hf (fun k hk => ?_) (fun k hk => .inl hk)
  refine set_blocks w _ _ k fun e => ?_
  dsimp only at e
  subst e
  rcases hk with hk | hk
  · exact h.own.hf _ hk (.inl rfl)
  · exact h.own.fs _ (.inl rfl) hk
/-- The last frame's stack, in a row of its own that is new. -/
theorem Tp.setStk (h : Tp B M u m n q f G fcap vS vL vh vs ch cf Th Tf) (hB : B ≤ u.heap.size) (hb : Below u.heap.size u w) {y : Value} {r : List Vl} (hV : VZ (fun k => u.heap.size ≤ k ∧ k < w.heap.size) w y r) :
    ∃ cf' Tf', Tp B M (w.setCell ⟨G, q * 5 + 3, none⟩ y) { m with frames := m.frames.set q { f with stk := r } } n q { f with stk := r } G fcap y vL vh vs ch cf' Th Tf' := by
  have hw := h.on hb
  have hf := hw.own.f.setRow hw.last hw.row (j0 := 0) (show 0 < 2 by omega) (x' := { f with stk := r }) (y := y) (r := r) rfl rfl hV (fun k hk => ⟨hk.2, fun e => by have := h.glt; omega, fun i' j' ht => by have := h.own.f.lt i' j' k ht; omega⟩)
  have hz : (w.setCell ⟨G, q * 5 + 3, none⟩ y).heap.size = w.heap.size := by simp
  refine ⟨_, _, hw.cells.far _ _ (by simpa using h.gm), h.low, h.own.withF hB (by rw [hz]; exact hb.size) hf (fun k hk => ?_) (fun k hk => ?_), fun k hk => ?_, by simpa using h.len, set_at h.at', ?_⟩
  · rw [set_blocks w _ _ k fun e => ?_]
    · exact hb.block k (h.own.lt k (hk.elim .inl fun h => .inr (.inr h)))
    · dsimp only at e
      subst e
      rcases hk with hk | hk
      · exact h.own.hf _ hk (.inl rfl)
      · exact h.own.fs _ (.inl rfl) hk
  · rcases hk with hk | ⟨i, j, hk⟩
    · exact .inl (.inl hk)
    · split at hk
      · split at hk
        · exact .inr hk.1
        · exact .inl (.inr ⟨_, _, hk⟩)
      · exact .inl (.inr ⟨_, _, hk⟩)
  · rcases hk with hk | (hk | ⟨i, j, hk⟩) | hk
    · exact h.ne k (.inl hk)
    · exact h.ne k (.inr (.inl (.inl hk)))
    · split at hk
      · split at hk
        · have := h.mlt; intro e; omega
        · exact h.ne k (.inr (.inl (.inr ⟨_, _, hk⟩)))
      · exact h.ne k (.inr (.inl (.inr ⟨_, _, hk⟩)))
    · exact h.ne k (.inr (.inr hk))
  · have hl : q < cf.length := (List.getElem?_eq_some_iff.1 h.row).1
    rw [List.getElem?_set, if_pos rfl, if_pos hl]
    rfl
end Pg
end Go.Proofs.Ytffkkhaiedhaiaa

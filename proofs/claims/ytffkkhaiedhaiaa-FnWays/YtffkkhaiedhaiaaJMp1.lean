/- A machine of one's own in its block, all its parts named: one object more, one frame more. -/
import Derived.Test.YtffkkhaiedhaiaaJPi0
import Derived.Test.YtffkkhaiedhaiaaJGv0
import Derived.Test.YtffkkhaiedhaiaaJLo0
namespace Go.Proofs.Ytffkkhaiedhaiaa
namespace Pg
open Go.ChangeShapes Go.WideShapes Go.ChangeAt Go.RowKit St

variable {B M : Nat} {u w : World} {vh vf vs : Value} {m : Mc} {ch cf : List (List Value)} {Th Tf : Nat → Nat → Nat → Prop}
structure MX (B M : Nat) (w : World) (m : Mc) (vh vf vs : Value) (ch cf : List (List Value)) (Th Tf : Nat → Nat → Nat → Prop) : Prop where
  cells : Cells w M [vh, vf, vs, .int .i64 m.fin, .int .i64 m.code]
  low : B ≤ M
  own : MOwn B w vh vf vs m ch cf Th Tf
  ne : ∀ k, Blk vh Th k ∨ Blk vf Tf k ∨ vs.ownBlock = some k → k ≠ M
theorem MX.on (h : MX B M u m vh vf vs ch cf Th Tf) (hb : Below u.heap.size u w) : MX B M w m vh vf vs ch cf Th Tf := ⟨h.cells.on hb, h.low, h.own.on hb, h.ne⟩
theorem MX.mlt (h : MX B M w m vh vf vs ch cf Th Tf) : M < w.heap.size := cell_lt h.cells.g0.1
theorem MX.st (h : MX B M w m vh vf vs ch cf Th Tf) : MSt B M w m := ⟨vh, vf, vs, ch, cf, Th, Tf, h.cells, h.low, h.own, h.ne⟩
theorem MX.new (h : MX B M u m vh vf vs ch cf Th Tf) (hB : B ≤ u.heap.size) (hb : Below u.heap.size u w) {w' : World} {v' y : Value} {o : Ob} (hV : VZ (fun k => u.heap.size ≤ k ∧ k < w.heap.size) w y o.flds)
    (hown : w'.ownsRow B 118 2 v' (m.heap.length + 1) ((recs recO m.heap ch).flatten ++ [.int .i64 o.cls, y])) (hgr : w.grownBy w' vh.ownBlock) (hv' : v'.ownBlock = vh.ownBlock ∨ v'.ownBlock = some w.heap.size) :
    ∃ ch' Th', MX B M (w'.setCell ⟨M, 0, none⟩ v') { m with heap := m.heap ++ [o] } v' vf vs ch' cf Th' Tf := by
  have hw := h.on hb
  have hsz : w.heap.size ≤ w'.heap.size := hgr.size
  have hz : (w'.setCell ⟨M, 0, none⟩ v').heap.size = w'.heap.size := by simp
  have hMs : vh.ownBlock ≠ some M := fun e => h.ne M (.inl (.inl e)) rfl
  have hMv : v'.ownBlock ≠ some M := by
    rcases hv' with e | e
    · rw [e]; exact hMs
    · rw [e]; intro e'; injection e' with e'; have := hw.mlt; omega
  have happ := hw.own.h.app (R := recO) (x := o) (ys := [y]) (U := fun j k => j = 0 ∧ u.heap.size ≤ k ∧ k < w.heap.size) (w := w') (v' := v') hown hgr hv' rfl
    (fun j rr z hr hzz => by
      cases j with
      | zero =>
        simp [recO] at hr hzz
        subst hr hzz
        exact hV.weak fun k hk => ⟨rfl, hk⟩
      | succ j => simp at hzz)
    (fun j k hk => ⟨hk.2.2, fun e => by have := (h.own.h.own.lt k e).2; omega, fun i j' ht => by have := h.own.h.lt i j' k ht; omega⟩)
    (fun j j' k hk hk' => hk.1.trans hk'.1.symm)
  have hTm : ∀ i j k, (if i = m.heap.length then (j = 0 ∧ u.heap.size ≤ k ∧ k < w.heap.size) else Th i j k) → k ≠ M := fun i j k hk => by
    split at hk
    · have := h.mlt; omega
    · exact h.ne k (.inl (.inr ⟨i, j, hk⟩))
  refine ⟨ch ++ [[y]], fun i j k => if i = m.heap.length then (j = 0 ∧ u.heap.size ≤ k ∧ k < w.heap.size) else Th i j k, ?_, h.low, ?_, fun k hk => ?_⟩
  · have hc : Cells w' M [vh, vf, vs, .int .i64 m.fin, .int .i64 m.code] := fun i x hx => by
      obtain ⟨a, b⟩ := hw.cells i x hx
      have e := hgr.block M hw.mlt fun e => hMs e.symm
      exact ⟨(World.cell?_of_block (w := w) e).trans a, (World.frozen?_of_block (w := w) e).trans b⟩
    exact hc.s0 _
  · refine h.own.withH hB (by rw [hz]; exact Nat.le_trans hb.size hsz) (happ.moved (by rw [hz]; exact Nat.le_refl _) (fun g hg => set_blocks w' _ _ g fun e => hMv (by rw [hg, ← e])) (fun i j k hk => set_blocks w' _ _ k fun e => hTm i j k hk e.symm)) (fun k hk => ?_) (fun k hk => ?_)
    · have hkl := h.own.lt k (hk.elim (fun h => .inr (.inl h)) fun h => .inr (.inr h))
      rw [set_blocks w' _ _ k (fun e => h.ne k (hk.elim (fun h => .inr (.inl h)) fun h => .inr (.inr h)) e.symm), hgr.block k (Nat.lt_of_lt_of_le hkl hb.size) (fun e => ?_)]
      · exact hb.block k hkl
      · rcases hk with hk | hk
        · exact h.own.hf k (.inl e.symm) hk
        · exact h.own.hs k (.inl e.symm) hk
    · rcases hk with hk | ⟨i, j, hk⟩
      · rcases hv' with e | e
        · rw [e] at hk; exact .inl (.inl hk)
        · rw [e] at hk; injection hk with hk; have := hb.size; exact .inr (by omega)
      · split at hk
        · exact .inr hk.2.1
        · exact .inl (.inr ⟨_, _, hk⟩)
  · rcases hk with (hk | ⟨i, j, hk⟩) | hk | hk
    · exact fun e => hMv (by rw [hk, e])
    · exact hTm i j k hk
    · exact h.ne k (.inr (.inl hk))
    · exact h.ne k (.inr (.inr hk))
theorem MX.more (h : MX B M u m vh vf vs ch cf Th Tf) (hB : B ≤ u.heap.size) (hb : Below u.heap.size u w) {w' : World} {v' y0 y1 : Value} {x : Fr} {N : Nat} (hN : u.heap.size ≤ N) (hNw : N ≤ w.heap.size) (hV0 : VZ (fun k => u.heap.size ≤ k ∧ k < N) w y0 x.stk) (hV1 : VZ (fun k => N ≤ k ∧ k < w.heap.size) w y1 x.loc)
    (hown : w'.ownsRow B 49 5 v' (m.frames.length + 1) ((recs recF m.frames cf).flatten ++ [.int .i64 x.cls, .int .i64 x.name, .int .i64 x.pos, y0, y1])) (hgr : w.grownBy w' vf.ownBlock) (hv' : v'.ownBlock = vf.ownBlock ∨ v'.ownBlock = some w.heap.size) :
    ∃ cf' Tf', MX B M (w'.setCell ⟨M, 1, none⟩ v') { m with frames := m.frames ++ [x] } vh v' vs ch cf' Th Tf' := by
  have hw := h.on hb
  have hsz : w.heap.size ≤ w'.heap.size := hgr.size
  have hz : (w'.setCell ⟨M, 1, none⟩ v').heap.size = w'.heap.size := by simp
  have hMs : vf.ownBlock ≠ some M := fun e => h.ne M (.inr (.inl (.inl e))) rfl
  have hMv : v'.ownBlock ≠ some M := by
    rcases hv' with e | e
    · rw [e]; exact hMs
    · rw [e]; intro e'; injection e' with e'; have := hw.mlt; omega
  have happ := hw.own.f.app (R := recF) (x := x) (ys := [y0, y1]) (U := fun j k => (j = 0 ∧ u.heap.size ≤ k ∧ k < N) ∨ (j = 1 ∧ N ≤ k ∧ k < w.heap.size)) (w := w') (v' := v') hown hgr hv' rfl
    (fun j rr z hr hzz => by
      match j, hr, hzz with
      | 0, hr, hzz =>
        simp [recF] at hr hzz
        subst hr hzz
        exact hV0.weak fun k hk => .inl ⟨rfl, hk⟩
      | 1, hr, hzz =>
        simp [recF] at hr hzz
        subst hr hzz
        exact hV1.weak fun k hk => .inr ⟨rfl, hk⟩
      | j + 2, hr, hzz => simp at hzz)
    (fun j k hk => by
      have hku : u.heap.size ≤ k ∧ k < w.heap.size := by omega
      exact ⟨hku.2, fun e => by have := (h.own.f.own.lt k e).2; omega, fun i j' ht => by have := h.own.f.lt i j' k ht; omega⟩)
    (fun j j' k hk hk' => by omega)
  have hTm : ∀ i j k, (if i = m.frames.length then ((j = 0 ∧ u.heap.size ≤ k ∧ k < N) ∨ (j = 1 ∧ N ≤ k ∧ k < w.heap.size)) else Tf i j k) → k ≠ M := fun i j k hk => by
    split at hk
    · have := h.mlt; omega
    · exact h.ne k (.inr (.inl (.inr ⟨i, j, hk⟩)))
  refine ⟨cf ++ [[y0, y1]], fun i j k => if i = m.frames.length then ((j = 0 ∧ u.heap.size ≤ k ∧ k < N) ∨ (j = 1 ∧ N ≤ k ∧ k < w.heap.size)) else Tf i j k, ?_, h.low, ?_, fun k hk => ?_⟩
  · have hc : Cells w' M [vh, vf, vs, .int .i64 m.fin, .int .i64 m.code] := fun i x hx => by
      obtain ⟨a, b⟩ := hw.cells i x hx
      have e := hgr.block M hw.mlt fun e => hMs e.symm
      exact ⟨(World.cell?_of_block (w := w) e).trans a, (World.frozen?_of_block (w := w) e).trans b⟩
    exact hc.s1 _
  · refine h.own.withF hB (by rw [hz]; exact Nat.le_trans hb.size hsz) (happ.moved (by rw [hz]; exact Nat.le_refl _) (fun g hg => set_blocks w' _ _ g fun e => hMv (by rw [hg, ← e])) (fun i j k hk => set_blocks w' _ _ k fun e => hTm i j k hk e.symm)) (fun k hk => ?_) (fun k hk => ?_)
    · have hkl := h.own.lt k (hk.elim .inl fun h => .inr (.inr h))
      rw [set_blocks w' _ _ k (fun e => h.ne k (hk.elim .inl fun h => .inr (.inr h)) e.symm), hgr.block k (Nat.lt_of_lt_of_le hkl hb.size) (fun e => ?_)]
      · exact hb.block k hkl
      · rcases hk with hk | hk
        · exact h.own.hf k hk (.inl e.symm)
        · exact h.own.fs k (.inl e.symm) hk
    · rcases hk with hk | ⟨i, j, hk⟩
      · rcases hv' with e | e
        · rw [e] at hk; exact .inl (.inl hk)
        · rw [e] at hk; injection hk with hk; have := hb.size; exact .inr (by omega)
      · split at hk
        · exact .inr (by omega)
        · exact .inl (.inr ⟨_, _, hk⟩)
  · rcases hk with hk | (hk | ⟨i, j, hk⟩) | hk
    · exact h.ne k (.inl hk)
    · exact fun e => hMv (by rw [hk, e])
    · exact hTm i j k hk
    · exact h.ne k (.inr (.inr hk))
theorem OwnRc.base {α : Type} {R : RecT α} {B B' : Nat} {w : World} {v : Value} {l : List α} {c : List (List Value)} {T : Nat → Nat → Nat → Prop} (h : OwnRc R B w v l c T) (hB : B' ≤ B) : OwnRc R B' w v l c T := ⟨h.len, ownBase h.own hB, h.off, h.lt, h.one, h.wid, h.row⟩
theorem MOwn.base {B' : Nat} (h : MOwn B w vh vf vs m ch cf Th Tf) (hB : B' ≤ B) : MOwn B' w vh vf vs m ch cf Th Tf := ⟨h.h.base hB, h.f.base hB, ownBase h.s hB, h.hf, h.hs, h.fs, fun k hk => Nat.le_trans hB (h.low k hk)⟩
theorem SI.none_nilI {B : Nat} {w : World} {n cap : Nat} {l : List Int} (h : SI true B w (.slice none n cap) l) (_hn : n = l.length) : l = [] ∧ n = 0 ∧ cap = 0 := by
  obtain ⟨h1, h2, h3⟩ := Arr.nil h
  exact ⟨h1, h2, h3⟩
theorem stepGrowI (w : World) {ops : Array Oper} {o : Oper} {a : Act} {K : Act → World → Prop} {Q : Exit → Act → World → Prop} {E : Prop} (hgd : o.guard = none) (s x : Operand)
    (ho : o.op = .call { callee := .builtin .append, args := #[s, x], argTypes := #[27, 27] })
    (B g cv : Nat) (hs : a.eval s = .slice (some ⟨g, 0, none⟩) 0 cv) (hg : Grow B w (.slice (some ⟨g, 0, none⟩) 0 cv) []) (hB : B ≤ w.heap.size)
    (z : Option Addr) (c B' : Nat) (r : List Int) (hx : a.eval x = .slice z r.length c) (hr : SI true B' w (.slice z r.length c) r) (hlen : r.length ≤ 30000)
    (h : ∀ g' cv' w', Grow B w' (.slice (some ⟨g', 0, none⟩) r.length cv') r → Below B w w' → (∀ b, b ≠ g → b < w.heap.size → w'.heap[b]? = w.heap[b]?) → (g' = g ∨ g' = w.heap.size) → K (a.put o.dst (.slice (some ⟨g', 0, none⟩) r.length cv')) w') : if Region.wanted o (yielded ops a.tmps) = true then Oper.wp Try.prog o a w K Q else E := by
  obtain ⟨i0, hif, hz0, hz1, hz2⟩ := info_parts infoN
  cases z with
  | none =>
    obtain ⟨rfl, hn, rfl⟩ := SI.none_nilI hr rfl
    refine stepAppNone w hgd s x 27 ho B 2 i0 1 Try.underlying27 hif _ 0 (nums []) hs hg.1 hx ?_
    exact h g cv w hg (Below.refl _ _) (fun _ _ _ => rfl) (.inl rfl)
  | some ad =>
    have hw : Region.wanted o (yielded ops a.tmps) = true := by simp [Region.wanted, hgd]
    rw [if_pos hw]
    obtain ⟨v', w', hr', h2, h3, h4, h5⟩ := run_append_own_at (P := Try.prog) w B 27 o.type 2 i0 (.int .i64 0) 1 8 Try.underlying27 hif hz0 hz1 hz2 rfl (by decide) (.slice (some ⟨g, 0, none⟩) 0 cv) 0 (nums []) hg.1 ad r.length c (nums r) (by simp [nums]) (SI.nums hr) (nums_one r) (by unfold maxLen; omega) (by omega) hB
    have hG : Grow B w' v' r := ⟨by simpa [nums] using h2, fun e => hg.2 (h4.1 e).1⟩
    obtain ⟨g', cv', hv⟩ := growForm hG
    unfold Oper.wp
    simp [execOp, ho, resolve, invoke, builtin, hs, hx, hr', Result.andThen]
    have := h g' cv' w' (by rw [← hv]; exact hG) (below_grownV hB hg.1 h3) (fun b hb hl => h3.block b hl (by simpa [Value.ownBlock] using hb)) (by rw [hv] at h5; simpa [Value.ownBlock] using h5)
    rw [← hv] at this
    exact this
end Pg
end Go.Proofs.Ytffkkhaiedhaiaa

/- A machine of one's own and its last frame: read, and changed in place. -/
namespace Go.Proofs.Ytffkkhaiedhaiaa
namespace Pg
open Go.ChangeShapes Go.WideShapes Go.ChangeAt Go.RowKit St

variable {B M G fcap : Nat} {u w : World} {vh vs vS vL : Value} {m : Mc} {n q : Nat} {f : Fr} {ch cf : List (List Value)} {Th Tf : Nat → Nat → Nat → Prop}
/-- A machine in its block M whose frames lie in G, f being the last one. -/
structure Tp (B M : Nat) (w : World) (m : Mc) (n q : Nat) (f : Fr) (G fcap : Nat) (vS vL vh vs : Value) (ch cf : List (List Value)) (Th Tf : Nat → Nat → Nat → Prop) : Prop where
  cells : Cells w M [vh, .slice (some ⟨G, 0, none⟩) n fcap, vs, .int .i64 m.fin, .int .i64 m.code]
  low : B ≤ M
  own : MOwn B w vh (.slice (some ⟨G, 0, none⟩) n fcap) vs m ch cf Th Tf
  ne : ∀ k, Blk vh Th k ∨ Blk (.slice (some ⟨G, 0, none⟩) n fcap) Tf k ∨ vs.ownBlock = some k → k ≠ M
  len : m.frames.length = n
  at' : m.frames[q]? = some f
  row : cf[q]? = some [vS, vL]
theorem own_form {q n : Nat} {t : TypeId} {v : Value} {xs : List Value} (h : w.ownsRow B t q v n xs) (hn : n ≠ 0) : ∃ g cap, v = .slice (some ⟨g, 0, none⟩) n cap := by
  obtain ⟨_, ⟨_, h0⟩ | ⟨g, cap, cur, hv, _⟩⟩ := h
  · exact absurd h0 hn
  · exact ⟨g, cap, hv⟩
theorem MSt.tp (h : MSt B M w m) (hf : m.frames[q]? = some f) : ∃ G fcap vS vL vh vs ch cf Th Tf, Tp B M w m m.frames.length q f G fcap vS vL vh vs ch cf Th Tf := by
  obtain ⟨vh, vf, vs, ch, cf, Th, Tf, hC, hBM, hO, hNe⟩ := h
  have hl := (List.getElem?_eq_some_iff.1 hf).1
  obtain ⟨G, fcap, rfl⟩ := own_form hO.f.own (by omega)
  have hc := List.getElem?_eq_getElem (show q < cf.length by rw [hO.f.len]; omega)
  obtain ⟨y, z, hyz⟩ := two_of (hO.f.wid _ _ hc)
  rw [hyz] at hc
  exact ⟨G, fcap, y, z, vh, vs, ch, cf, Th, Tf, ⟨hC, hBM, hO, hNe, rfl, hf, hc⟩⟩
theorem Tp.st (h : Tp B M w m n q f G fcap vS vL vh vs ch cf Th Tf) : MSt B M w m := ⟨vh, _, vs, ch, cf, Th, Tf, h.cells, h.low, h.own, h.ne⟩
theorem Tp.on (h : Tp B M u m n q f G fcap vS vL vh vs ch cf Th Tf) (hb : Below u.heap.size u w) : Tp B M w m n q f G fcap vS vL vh vs ch cf Th Tf := ⟨h.cells.on hb, h.low, h.own.on hb, h.ne, h.len, h.at', h.row⟩
theorem Tp.last (h : Tp B M w m n q f G fcap vS vL vh vs ch cf Th Tf) : m.frames[q]? = some f := h.at'
theorem set_at {l : List Fr} {x y : Fr} (h : l[q]? = some x) : (l.set q y)[q]? = some y := by
  rw [List.getElem?_set, if_pos rfl, if_pos (List.getElem?_eq_some_iff.1 h).1]
theorem Tp.mlt (h : Tp B M w m n q f G fcap vS vL vh vs ch cf Th Tf) : M < w.heap.size := cell_lt h.cells.g0.1
theorem Tp.glt (h : Tp B M w m n q f G fcap vS vL vh vs ch cf Th Tf) : G < w.heap.size := (h.own.f.own.lt G rfl).2
theorem Tp.gm (h : Tp B M w m n q f G fcap vS vL vh vs ch cf Th Tf) : G ≠ M := h.ne G (.inr (.inl (.inl rfl)))
theorem Tp.cell (h : Tp B M w m n q f G fcap vS vL vh vs ch cf Th Tf) {d : Nat} (hd : d < 5) : w.cell? ⟨G, q * 5 + d, none⟩ = [.int .i64 f.cls, .int .i64 f.name, .int .i64 f.pos, vS, vL][d]? := h.own.f.cell h.last h.row (d := d) hd
theorem Tp.frz (h : Tp B M w m n q f G fcap vS vL vh vs ch cf Th Tf) (o : Nat) : w.frozen? ⟨G, o, none⟩ = false := by
  obtain ⟨_, ⟨e, _⟩ | ⟨g, cap, cur, e, _, h4, _⟩⟩ := h.own.f.own
  · cases e
  · injection e with e _ _
    injection e with e
    injection e with e
    subst e
    simp [World.frozen?, h4]
theorem Tp.stk (h : Tp B M w m n q f G fcap vS vL vh vs ch cf Th Tf) : VZ (Tf q 0) w vS f.stk := h.own.f.row _ f _ h.last h.row 0 f.stk vS rfl rfl
theorem Tp.loc (h : Tp B M w m n q f G fcap vS vL vh vs ch cf Th Tf) : VZ (Tf q 1) w vL f.loc := h.own.f.row _ f _ h.last h.row 1 f.loc vL rfl rfl
/-- The last frame's place. -/
theorem Tp.setPos (h : Tp B M w m n q f G fcap vS vL vh vs ch cf Th Tf) (hB : B ≤ w.heap.size) (x : Int) :
    Tp B M (w.setCell ⟨G, q * 5 + 2, none⟩ (.int .i64 x)) { m with frames := m.frames.set q { f with pos := x } } n q { f with pos := x } G fcap vS vL vh vs ch cf Th Tf := by
  have hf := h.own.f.setHd h.last (x' := { f with pos := x }) (d := 2) (show 2 < 3 by omega) (y := .int .i64 x) rfl rfl
  have hz : (w.setCell ⟨G, q * 5 + 2, none⟩ (.int .i64 x)).heap.size = w.heap.size := by simp
  refine ⟨h.cells.far _ _ (by simpa using h.gm), h.low, ?_, h.ne, by simpa using h.len, set_at h.at', h.row⟩
  refine h.own.withF hB (by rw [hz]; exact Nat.le_refl _) hf (fun k hk => ?_) (fun k hk => .inl hk)
  refine set_blocks w _ _ k fun e => ?_
  dsimp only at e
  subst e
  rcases hk with hk | hk
  · exact h.own.hf _ hk (.inl rfl)
  · exact h.own.fs _ (.inl rfl) hk
/-- The last frame's stack, in a row of its own that is new. -/
theorem Tp.setStk (h : Tp B M u m n q f G fcap vS vL vh vs ch cf Th Tf) (hB : B ≤ u.heap.size) (hb : Below u.heap.size u w) {y : Value} {r : List Vl} (hV : VZ (fun k => u.heap.size ≤ k ∧ k < w.heap.size) w y r) :
    ∃ cf' Tf', Tp B M (w.setCell ⟨G, q * 5 + 3, none⟩ y) { m with frames := m.frames.set q { f with stk := r } } n q { f with stk := r } G fcap y vL vh vs ch cf' Th Tf' := by
  have hw := h.on hb
  have hf := hw.own.f.setRow hw.last hw.row (j0 := 0) (show 0 < 2 by omega) (x' := { f with stk := r }) (y := y) (r := r) rfl rfl hV (fun k hk => ⟨hk.2, fun e => by have := h.glt; omega, fun i' j' ht => by have := h.own.f.lt i' j' k ht; omega⟩)
  have hz : (w.setCell ⟨G, q * 5 + 3, none⟩ y).heap.size = w.heap.size := by simp
  refine ⟨_, _, hw.cells.far _ _ (by simpa using h.gm), h.low, h.own.withF hB (by rw [hz]; exact hb.size) hf (fun k hk => ?_) (fun k hk => ?_), fun k hk => ?_, by simpa using h.len, set_at h.at', ?_⟩
  · rw [set_blocks w _ _ k fun e => ?_]
    · exact hb.block k (h.own.lt k (hk.elim .inl fun h => .inr (.inr h)))
    · dsimp only at e
      subst e
      rcases hk with hk | hk
      · exact h.own.hf _ hk (.inl rfl)
      · exact h.own.fs _ (.inl rfl) hk
  · rcases hk with hk | ⟨i, j, hk⟩
    · exact .inl (.inl hk)
    · split at hk
      · split at hk
        · exact .inr hk.1
        · exact .inl (.inr ⟨_, _, hk⟩)
      · exact .inl (.inr ⟨_, _, hk⟩)
  · rcases hk with hk | (hk | ⟨i, j, hk⟩) | hk
    · exact h.ne k (.inl hk)
    · exact h.ne k (.inr (.inl (.inl hk)))
    · split at hk
      · split at hk
        · have := h.mlt; intro e; omega
        · exact h.ne k (.inr (.inl (.inr ⟨_, _, hk⟩)))
      · exact h.ne k (.inr (.inl (.inr ⟨_, _, hk⟩)))
    · exact h.ne k (.inr (.inr hk))
  · have hl : q < cf.length := (List.getElem?_eq_some_iff.1 h.row).1
    rw [List.getElem?_set, if_pos rfl, if_pos hl]
    rfl
end Pg
end Go.Proofs.Ytffkkhaiedhaiaa

/- A machine of one's own: an element of a row set, one more object, one more said. -/
namespace Go.Proofs.Ytffkkhaiedhaiaa
namespace Pg
open Go.ChangeShapes Go.WideShapes Go.ChangeAt Go.RowKit St

/-- Two cells of one value. -/
abbrev setV (w : World) (g k : Nat) (v : Vl) : World := (w.setCell ⟨g, k * 2, none⟩ (.int .i64 v.1)).setCell ⟨g, k * 2 + 1, none⟩ (.int .i64 v.2)
theorem setV_size (w : World) (g k : Nat) (v : Vl) : (setV w g k v).heap.size = w.heap.size := by simp [setV]
theorem setV_block (w : World) (g k : Nat) (v : Vl) {b : Nat} (hb : b ≠ g) : (setV w g k v).heap[b]? = w.heap[b]? := by
  unfold setV
  rw [Below.heap_setCell _ _ _ _ hb, Below.heap_setCell _ _ _ _ hb]
theorem VZ.elem {S : Nat → Prop} {w : World} {g c k : Nat} {l : List Vl} (h : VZ S w (.slice (some ⟨g, 0, none⟩) l.length c) l) (hk : k < l.length) (v : Vl) : VZ S (setV w g k v) (.slice (some ⟨g, 0, none⟩) l.length c) (l.set k v) := by
  rcases h with ⟨g', c', hv, h1, h2, h3, h4⟩ | ⟨hv, _⟩
  · injection hv with e1 e2 e3
    injection e1 with e1
    injection e1 with e1
    subst e1 e3
    refine .inl ⟨g, c', by simp, h1, by rw [setV_size]; exact h2, fun j x hj => ?_, fun i hi => ?_⟩
    · rw [List.getElem?_set] at hj
      have hold : ∀ o, o ≠ k * 2 → o ≠ k * 2 + 1 → (setV w g k v).cell? ⟨g, o, none⟩ = w.cell? ⟨g, o, none⟩ := fun o ha hb => by
        unfold setV
        rw [World.cell?_setCell_other _ _ _ _ (fun e => hb (by injection e with _ e; exact e.symm)), World.cell?_setCell_other _ _ _ _ (fun e => ha (by injection e with _ e; exact e.symm))]
      by_cases e : k = j
      · subst e
        rw [if_pos rfl, if_pos hk] at hj
        injection hj with hj
        subst hj
        obtain ⟨a0, a1⟩ := h3 k _ (List.getElem?_eq_getElem hk)
        refine ⟨?_, ?_⟩
        · unfold setV
          rw [World.cell?_setCell_other _ _ _ _ (fun e => by injection e with _ e; omega)]
          exact World.cell?_setCell_same _ _ _ a0
        · have : (w.setCell ⟨g, k * 2, none⟩ (.int .i64 v.1)).cell? ⟨g, k * 2 + 1, none⟩ = _ := (World.cell?_setCell_other _ _ _ _ (fun e => by injection e with _ e; omega)).trans a1
          exact World.cell?_setCell_same _ _ _ this
      · rw [if_neg e] at hj
        obtain ⟨a0, a1⟩ := h3 j x hj
        exact ⟨(hold _ (by omega) (by omega)).trans a0, (hold _ (by omega) (by omega)).trans a1⟩
    · rw [List.length_set] at hi
      obtain ⟨⟨x, hx⟩, hf⟩ := h4 i hi
      refine ⟨?_, by simpa [setV] using hf⟩
      have st : ∀ (u : World) (o : Nat) (y : Value), (∃ x, u.cell? ⟨g, i, none⟩ = some x) → ∃ x, (u.setCell ⟨g, o, none⟩ y).cell? ⟨g, i, none⟩ = some x := fun u o y hu => by
        obtain ⟨x, hx⟩ := hu
        by_cases e : o = i
        · subst e; exact ⟨y, World.cell?_setCell_same _ _ _ hx⟩
        · exact ⟨x, (World.cell?_setCell_other _ _ _ _ (fun h => e (by injection h))).trans hx⟩
      exact st _ _ _ (st _ _ _ ⟨x, hx⟩)
  · simp at hv
theorem VZ.inS {S : Nat → Prop} {w : World} {g n c : Nat} {l : List Vl} (h : VZ S w (.slice (some ⟨g, 0, none⟩) n c) l) : S g := by
  rcases h with ⟨g', c', hv, h1, _⟩ | ⟨hv, _⟩
  · injection hv with e1
    injection e1 with e1
    injection e1 with e1
    subst e1
    exact h1
  · simp at hv
/-- One value of a record's row set. -/
theorem OwnRc.elem {α : Type} {R : RecT α} {B : Nat} {w : World} {v : Value} {l : List α} {c : List (List Value)} {T : Nat → Nat → Nat → Prop} (h : OwnRc R B w v l c T) {i : Nat} {x x' : α} {ys : List Value} (h1 : l[i]? = some x) (h2 : c[i]? = some ys) {j0 : Nat} {rr : List Vl} (hj : (R.rows x)[j0]? = some rr) {gy cy : Nat} (hy : ys[j0]? = some (.slice (some ⟨gy, 0, none⟩) rr.length cy))
    {k : Nat} (hk : k < rr.length) (x0 : Vl) (he : R.hd x' = R.hd x) (hr : R.rows x' = (R.rows x).set j0 (rr.set k x0)) : OwnRc R B (setV w gy k x0) v (l.set i x') c T ∧ T i j0 gy := by
  have hi := (List.getElem?_eq_some_iff.1 h1).1
  have hvz := h.row i x ys h1 h2 j0 rr _ hj hy
  have hT := hvz.inS
  have hcs : c.set i ys = c := by
    have := List.getElem?_eq_some_iff.1 h2
    obtain ⟨hl, e⟩ := this
    rw [← e]; exact List.set_getElem_self _
  have key := h.turn (i := i) (x := x') (ys := ys) (U := T i) (w := setV w gy k x0) hi (by
      rw [recs_set h.len, he]
      have : (recs R l c).set i (R.hd x ++ ys) = recs R l c := by
        have hh := recs_at (R := R) h1 h2
        obtain ⟨hl, e⟩ := List.getElem?_eq_some_iff.1 hh
        rw [← e]; exact List.set_getElem_self _
      rw [this]
      exact own_moved h.own fun g hg => setV_block w gy k x0 fun e => h.off i j0 gy hT (by rw [← e]; exact hg)) (by rw [setV_size]; exact Nat.le_refl _)
    (fun i' j b hne hb => setV_block w gy k x0 fun e => hne (h.one i' j i j0 gy (e ▸ hb) hT).1) (h.wid i _ h2)
    (fun j r2 y hr2 hyy => by
      by_cases e : j = j0
      · subst e
        rw [hr, List.getElem?_set, if_pos rfl, if_pos (List.getElem?_eq_some_iff.1 hj).1] at hr2
        injection hr2 with hr2
        rw [hy] at hyy
        injection hyy with hyy
        subst hr2 hyy
        exact hvz.elem hk x0
      · rw [hr, List.getElem?_set, if_neg fun e' => e e'.symm] at hr2
        exact (h.row i x ys h1 h2 j r2 y hr2 hyy).moved (by rw [setV_size]; exact Nat.le_refl _) fun b hb _ => setV_block w gy k x0 fun e2 => e (h.one i j i j0 gy (e2 ▸ hb) hT).2)
    (fun j b hb => ⟨by rw [setV_size]; exact h.lt i j b hb, h.off i j b hb, fun i' j' hne hb' => hne (h.one i' j' i j b hb' hb).1⟩) (fun j j' b hb hb' => (h.one i j i j' b hb hb').2)
  rw [OwnRc.same, hcs] at key
  exact ⟨key, hT⟩
variable {B M G fcap : Nat} {u w : World} {vh vs vS vL : Value} {m : Mc} {n q : Nat} {f : Fr} {ch cf : List (List Value)} {Th Tf : Nat → Nat → Nat → Prop}
/-- A local of the last frame set. -/
theorem Tp.setLoc {gL cL : Nat} (h : Tp B M w m n q f G fcap vS (.slice (some ⟨gL, 0, none⟩) f.loc.length cL) vh vs ch cf Th Tf) (hB : B ≤ w.heap.size) {k : Nat} (hk : k < f.loc.length) (x : Vl) :
    Tp B M (setV w gL k x) { m with frames := m.frames.set q { f with loc := f.loc.set k x } } n q { f with loc := f.loc.set k x } G fcap vS (.slice (some ⟨gL, 0, none⟩) f.loc.length cL) vh vs ch cf Th Tf := by
  obtain ⟨hf, hT⟩ := h.own.f.elem h.last h.row (j0 := 1) (rr := f.loc) rfl rfl hk x (x' := { f with loc := f.loc.set k x }) rfl rfl
  have hblk : Blk (.slice (some ⟨G, 0, none⟩) n fcap) Tf gL := .inr ⟨_, _, hT⟩
  refine ⟨fun i y hy => ?_, h.low, h.own.withF hB (by rw [setV_size]; exact Nat.le_refl _) hf (fun b hb => setV_block w gL k x fun e => ?_) (fun b hb => .inl hb), h.ne, by simpa using h.len, set_at h.at', h.row⟩
  · have hM : M ≠ gL := fun e => h.ne gL (.inr (.inl hblk)) e.symm
    exact ((h.cells.far ⟨gL, k * 2, none⟩ _ (fun e => hM e.symm)).far ⟨gL, k * 2 + 1, none⟩ _ (fun e => hM e.symm)) i y hy
  · subst e
    rcases hb with hb | hb
    · exact h.own.hf _ hb hblk
    · exact h.own.fs _ hblk hb
/-- A field of an object set. -/
theorem Tp.setFld (h : Tp B M w m n q f G fcap vS vL vh vs ch cf Th Tf) (hB : B ≤ w.heap.size) {i : Nat} {o : Ob} (ho : m.heap[i]? = some o) {gO cO : Nat} (hc : ch[i]? = some [.slice (some ⟨gO, 0, none⟩) o.flds.length cO]) {k : Nat} (hk : k < o.flds.length) (x : Vl) :
    Tp B M (setV w gO k x) { m with heap := m.heap.set i { o with flds := o.flds.set k x } } n q f G fcap vS vL vh vs ch cf Th Tf := by
  obtain ⟨hh, hT⟩ := h.own.h.elem ho hc (j0 := 0) (rr := o.flds) rfl rfl hk x (x' := { o with flds := o.flds.set k x }) rfl rfl
  have hblk : Blk vh Th gO := .inr ⟨_, _, hT⟩
  refine ⟨fun i y hy => ?_, h.low, h.own.withH hB (by rw [setV_size]; exact Nat.le_refl _) hh (fun b hb => setV_block w gO k x fun e => ?_) (fun b hb => .inl hb), h.ne, h.len, h.at', h.row⟩
  · have hM : M ≠ gO := fun e => h.ne gO (.inl hblk) e.symm
    exact ((h.cells.far ⟨gO, k * 2, none⟩ _ (fun e => hM e.symm)).far ⟨gO, k * 2 + 1, none⟩ _ (fun e => hM e.symm)) i y hy
  · subst e
    rcases hb with hb | hb
    · exact h.own.hf _ hblk hb
    · exact h.own.hs _ hblk hb
/-- One more said: the row grown, its place in the machine set. -/
theorem Tp.say (h : Tp B M u m n q f G fcap vS vL vh vs ch cf Th Tf) (hB : B ≤ u.heap.size) (hb : Below u.heap.size u w) {w' : World} {v' : Value} {sd : List Int} (hown : w'.ownsRow B 2 1 v' sd.length (nums sd)) (hgr : w.grownBy w' vs.ownBlock) (hv' : v'.ownBlock = vs.ownBlock ∨ v'.ownBlock = some w.heap.size) :
    Tp B M (w'.setCell ⟨M, 2, none⟩ v') { m with said := sd } n q f G fcap vS vL vh v' ch cf Th Tf := by
  have hw := h.on hb
  have hsz : w.heap.size ≤ w'.heap.size := hgr.size
  have hz : (w'.setCell ⟨M, 2, none⟩ v').heap.size = w'.heap.size := by simp
  have hblk : ∀ k, k < w.heap.size → vs.ownBlock ≠ some k → k ≠ M → (w'.setCell ⟨M, 2, none⟩ v').heap[k]? = w.heap[k]? := fun k hk hne hM => by
    rw [set_blocks w' _ _ k (fun e => hM e.symm)]
    exact hgr.block k hk fun e => hne e.symm
  have hMs : vs.ownBlock ≠ some M := fun e => h.ne M (.inr (.inr e)) rfl
  have hMv : v'.ownBlock ≠ some M := by
    rcases hv' with e | e
    · rw [e]; exact hMs
    · rw [e]; intro e'; injection e' with e'; have := hw.mlt; omega
  refine ⟨?_, h.low, ?_, fun k hk => ?_, h.len, h.at', h.row⟩
  · have hc : Cells w' M [vh, .slice (some ⟨G, 0, none⟩) n fcap, vs, .int .i64 m.fin, .int .i64 m.code] := fun i x hx => by
      obtain ⟨a, b⟩ := hw.cells i x hx
      have e := hgr.block M hw.mlt fun e => hMs e.symm
      exact ⟨(World.cell?_of_block (w := w) e).trans a, (World.frozen?_of_block (w := w) e).trans b⟩
    exact hc.s2 _
  · refine hw.own.withS (Nat.le_trans hB hb.size) (by rw [hz]; exact hsz) (own_moved hown fun g hg => set_blocks w' _ _ g fun e => hMv (by rw [hg, ← e])) (fun k hk => hblk k (hw.own.lt k (hk.elim .inl fun h => .inr (.inl h))) (fun e => by
      rcases hk with hk | hk
      · exact hw.own.hs k hk e
      · exact hw.own.fs k hk e) (h.ne k (hk.elim .inl fun h => .inr (.inl h)))) (fun k hk => ?_)
    rcases hv' with e | e
    · rw [e] at hk; exact .inl hk
    · rw [e] at hk; injection hk with hk; exact .inr (by omega)
  · rcases hk with hk | hk | hk
    · exact h.ne k (.inl hk)
    · exact h.ne k (.inr (.inl hk))
    · exact fun e => hMv (by rw [hk, e])
/-- One more object: the row grown, its place in the machine set. -/
theorem Tp.new (h : Tp B M u m n q f G fcap vS vL vh vs ch cf Th Tf) (hB : B ≤ u.heap.size) (hb : Below u.heap.size u w) {w' : World} {v' y : Value} {o : Ob} (hV : VZ (fun k => u.heap.size ≤ k ∧ k < w.heap.size) w y o.flds)
    (hown : w'.ownsRow B 118 2 v' (m.heap.length + 1) ((recs recO m.heap ch).flatten ++ [.int .i64 o.cls, y])) (hgr : w.grownBy w' vh.ownBlock) (hv' : v'.ownBlock = vh.ownBlock ∨ v'.ownBlock = some w.heap.size) :
    ∃ ch' Th', Tp B M (w'.setCell ⟨M, 0, none⟩ v') { m with heap := m.heap ++ [o] } n q f G fcap vS vL v' vs ch' cf Th' Tf := by
  have hw := h.on hb
  have hsz : w.heap.size ≤ w'.heap.size := hgr.size
  have hz : (w'.setCell ⟨M, 0, none⟩ v').heap.size = w'.heap.size := by simp
  have hMs : vh.ownBlock ≠ some M := fun e => h.ne M (.inl (.inl e)) rfl
  have hMv : v'.ownBlock ≠ some M := by
    rcases hv' with e | e
    · rw [e]; exact hMs
    · rw [e]; intro e'; injection e' with e'; have := hw.mlt; omega
  have happ := hw.own.h.app (R := recO) (x := o) (ys := [y]) (U := fun j k => j = 0 ∧ u.heap.size ≤ k ∧ k < w.heap.size) (w := w') (v' := v') hown hgr hv' rfl
    (fun j rr z hr hzz => by
      cases j with
      | zero =>
        simp [recO] at hr hzz
        subst hr hzz
        exact hV.weak fun k hk => ⟨rfl, hk⟩
      | succ j => simp at hzz)
    (fun j k hk => ⟨hk.2.2, fun e => by have := (h.own.h.own.lt k e).2; omega, fun i j' ht => by have := h.own.h.lt i j' k ht; omega⟩)
    (fun j j' k hk hk' => hk.1.trans hk'.1.symm)
  have hTm : ∀ i j k, (if i = m.heap.length then (j = 0 ∧ u.heap.size ≤ k ∧ k < w.heap.size) else Th i j k) → k ≠ M := fun i j k hk => by
    split at hk
    · have := h.mlt; omega
    · exact h.ne k (.inl (.inr ⟨i, j, hk⟩))
  refine ⟨ch ++ [[y]], fun i j k => if i = m.heap.length then (j = 0 ∧ u.heap.size ≤ k ∧ k < w.heap.size) else Th i j k, ?_, h.low, ?_, fun k hk => ?_, h.len, h.at', h.row⟩
  · have hc : Cells w' M [vh, .slice (some ⟨G, 0, none⟩) n fcap, vs, .int .i64 m.fin, .int .i64 m.code] := fun i x hx => by
      obtain ⟨a, b⟩ := hw.cells i x hx
      have e := hgr.block M hw.mlt fun e => hMs e.symm
      exact ⟨(World.cell?_of_block (w := w) e).trans a, (World.frozen?_of_block (w := w) e).trans b⟩
    exact hc.s0 _
  · refine h.own.withH hB (by rw [hz]; exact Nat.le_trans hb.size hsz) (happ.moved (by rw [hz]; exact Nat.le_refl _) (fun g hg => set_blocks w' _ _ g fun e => hMv (by rw [hg, ← e])) (fun i j k hk => set_blocks w' _ _ k fun e => hTm i j k hk e.symm)) (fun k hk => ?_) (fun k hk => ?_)
    · have hkl := h.own.lt k (hk.elim (fun h => .inr (.inl h)) fun h => .inr (.inr h))
      rw [set_blocks w' _ _ k (fun e => h.ne k (hk.elim (fun h => .inr (.inl h)) fun h => .inr (.inr h)) e.symm), hgr.block k (Nat.lt_of_lt_of_le hkl hb.size) (fun e => ?_)]
      · exact hb.block k hkl
      · rcases hk with hk | hk
        · exact h.own.hf k (.inl e.symm) hk
        · exact h.own.hs k (.inl e.symm) hk
    · rcases hk with hk | ⟨i, j, hk⟩
      · rcases hv' with e | e
        · rw [e] at hk; exact .inl (.inl hk)
        · rw [e] at hk; injection hk with hk; have := hb.size; exact .inr (by omega)
      · split at hk
        · exact .inr hk.2.1
        · exact .inl (.inr ⟨_, _, hk⟩)
  · rcases hk with (hk | ⟨i, j, hk⟩) | hk | hk
    · exact fun e => hMv (by rw [hk, e])
    · exact hTm i j k hk
    · exact h.ne k (.inr (.inl hk))
    · exact h.ne k (.inr (.inr hk))
end Pg
end Go.Proofs.Ytffkkhaiedhaiaa

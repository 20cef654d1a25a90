/- A machine of one's own: an element of a row set, one more object, one more said. -/
import Derived.Test.YtffkkhaiedhaiaaJMp0
import Derived.Test.YtffkkhaiedhaiaaJSu0
import Derived.Test.YtffkkhaiedhaiaaJSd0
import Derived.Maps.AppendAt
namespace Go.Proofs.Ytffkkhaiedhaiaa
namespace Pg
open Go.ChangeShapes Go.WideShapes Go.ChangeAt Go.RowKit St

/-- Two cells of one value. -/
abbrev setV (w : World) (g k : Nat) (v : Vl) : World := (w.setCell ⟨g, k * 2, none⟩ (.int .i64 v.1)).setCell ⟨g, k * 2 + 1, none⟩ (.int .i64 v.2)
theorem setV_size (w : World) (g k : Nat) (v : Vl) : (setV w g k v).heap.size = w.heap.size := by simp [setV]
theorem setV_block (w : World) (g k : Nat) (v : Vl) {b : Nat} (hb : b ≠ g) : (setV w g k v).heap[b]? = w.heap[b]? := by
  unfold setV
  rw [Below.heap_setCell _ _ _ _ hb, Below.heap_setCell _ _ _ _ hb]
theorem VZ.elem {S : Nat → Prop} {w : World} {g c k : Nat} {l : List Vl} (h : VZ S w (.slice (some ⟨g, 0, none⟩) l.length c) l) (hk : k < l.length) (v : Vl) : VZ S (setV w g k v) (.slice (some ⟨g, 0, none⟩) l.length c) (l.set k v) := by
  rcases h with ⟨g', c', hv, h1, h2, h3, h4⟩ | ⟨hv, _⟩
  · injection hv with e1 e2 e3
    injection e1 with e1
    injection e1 with e1
    subst e1 e3
    refine .inl ⟨g, c', by simp, h1, by rw [setV_size]; exact h2, fun j x hj => ?_, fun i hi => ?_⟩
    · rw [List.getElem?_set] at hj
      have hold : ∀ o, o ≠ k * 2 → o ≠ k * 2 + 1 → (setV w g k v).cell? ⟨g, o, none⟩ = w.cell? ⟨g, o, none⟩ := fun o ha hb => by
        unfold setV
        rw [World.cell?_setCell_other _ _ _ _ (fun e => hb (by injection e with _ e; exact e.symm)), World.cell?_setCell_other _ _ _ _ (fun e => ha (by injection e with _ e; exact e.symm))]
      by_cases e : k = j
      · subst e
        rw [if_pos rfl, if_pos hk] at hj
        injection hj with hj
        subst hj
        obtain ⟨a0, a1⟩ := h3 k _ (List.getElem?_eq_getElem hk)
        refine ⟨?_, ?_⟩
        · unfold setV
          rw [World.cell?_setCell_other _ _ _ _ (fun e => by injection e with _ e; omega)]
          exact World.cell?_setCell_same _ _ _ a0
        · have : (w.setCell ⟨g, k * 2, none⟩ (.int .i64 v.1)).cell? ⟨g, k * 2 + 1, none⟩ = _ := (World.cell?_setCell_other _ _ _ _ (fun e => by injection e with _ e; omega)).trans a1
          exact World.cell?_setCell_same _ _ _ this
      · rw [if_neg e] at hj
        obtain ⟨a0, a1⟩ := h3 j x hj
        exact ⟨(hold _ (by omega) (by omega)).trans a0, (hold _ (by omega) (by omega)).trans a1⟩
    · rw [List.length_set] at hi
      obtain ⟨⟨x, hx⟩, hf⟩ := h4 i hi
      refine ⟨?_, by simpa [setV] using hf⟩
      have st : ∀ (u : World) (o : Nat) (y : Value), (∃ x, u.cell? ⟨g, i, none⟩ = some x) → ∃ x, (u.setCell ⟨g, o, none⟩ y).cell? ⟨g, i, none⟩ = some x := fun u o y hu => by
        obtain ⟨x, hx⟩ := hu
        by_cases e : o = i
        · subst e; exact ⟨y, World.cell?_setCell_same _ _ _ hx⟩
        · exact ⟨x, (World.cell?_setCell_other _ _ _ _ (fun h => e (by injection h))).trans hx⟩
      exact st _ _ _ (st _ _ _ ⟨x, hx⟩)
  · simp at hv
theorem VZ.inS {S : Nat → Prop} {w : World} {g n c : Nat} {l : List Vl} (h : VZ S w (.slice (some ⟨g, 0, none⟩) n c) l) : S g := by
  rcases h with ⟨g', c', hv, h1, _⟩ | ⟨hv, _⟩
  · injection hv with e1
    injection e1 with e1
    injection e1 with e1
    subst e1
    exact h1
  · simp at hv
/-- One value of a record's row set. -/
theorem OwnRc.elem {α : Type} {R : RecT α} {B : Nat} {w : World} {v : Value} {l : List α} {c : List (List Value)} {T : Nat → Nat → Nat → Prop} (h : OwnRc R B w v l c T) {i : Nat} {x x' : α} {ys : List Value} (h1 : l[i]? = some x) (h2 : c[i]? = some ys) {j0 : Nat} {rr : List Vl} (hj : (R.rows x)[j0]? = some rr) {gy cy : Nat} (hy : ys[j0]? = some (.slice (some ⟨gy, 0, none⟩) rr.length cy))
    {k : Nat} (hk : k < rr.length) (x0 : Vl) (he : R.hd x' = R.hd x) (hr : R.rows x' = (R.rows x).set j0 (rr.set k x0)) : OwnRc R B (setV w gy k x0) v (l.set i x') c T ∧ T i j0 gy := by
  have hi := (List.getElem?_eq_some_iff.1 h1).1
  have hvz := h.row i x ys h1 h2 j0 rr _ hj hy
  have hT := hvz.inS
  have hcs : c.set i ys = c := by
    have := List.getElem?_eq_some_iff.1 h2
    obtain ⟨hl, e⟩ := this
    rw [← e]; exact List.set_getElem_self _
  have key := h.turn (i := i) (x := x') (ys := ys) (U := T i) (w := setV w gy k x0) hi (by
      rw [recs_set h.len, he]
      have : (recs R l c).set i (R.hd x ++ ys) = recs R l c := by
        have hh := recs_at (R := R) h1 h2
        obtain ⟨hl, e⟩ := List.getElem?_eq_some_iff.1 hh
        rw [← e]; exact List.set_getElem_self _
      rw [this]
      exact own_moved h.own fun g hg => setV_block w gy k x0 fun e => h.off i j0 gy hT (by rw [← e]; exact hg)) (by rw [setV_size]; exact Nat.le_refl _)
    (fun i' j b hne hb => setV_block w gy k x0 fun e => hne (h.one i' j i j0 gy (e ▸ hb) hT).1) (h.wid i _ h2)
    (fun j r2 y hr2 hyy => by
      by_cases e : j = j0
      · subst e
        rw [hr, List.getElem?_set, if_pos rfl, if_pos (List.getElem?_eq_some_iff.1 hj).1] at hr2
        injection hr2 with hr2
        rw [hy] at hyy
        injection hyy with hyy
        subst hr2 hyy
        exact hvz.elem hk x0
      · rw [hr, List.getElem?_set, if_neg fun e' => e e'.symm] at hr2
        exact (h.row i x ys h1 h2 j r2 y hr2 hyy).moved (by rw [setV_size]; exact Nat.le_refl _) fun b hb _ => setV_block w gy k x0 fun e2 => e (h.one i j i j0 gy (e2 ▸ hb) hT).2)
    (fun j b hb => ⟨by rw [setV_size]; exact h.lt i j b hb, h.off i j b hb, fun i' j' hne hb' => hne (h.one i' j' i j b hb' hb).1⟩) (fun j j' b hb hb' => (h.one i j i j' b hb hb').2)
  rw [OwnRc.same, hcs] at key
  exact ⟨key, hT⟩
variable {B M G fcap : Nat} {u w : World} {vh vs vS vL : Value} {m : Mc} {n q : Nat} {f : Fr} {ch cf : List (List Value)} {Th Tf : Nat → Nat → Nat → Prop}
/-- A local of the last frame set. -/
theorem Tp.setLoc {gL cL : Nat} (h : Tp B M w m n q f G fcap vS (.slice (some ⟨gL, 0, none⟩) f.loc.length cL) vh vs ch cf Th Tf) (hB : B ≤ w.heap.size) {k : Nat} (hk : k < f.loc.length) (x : Vl) :
    Tp B M (setV w gL k x) { m with frames := m.frames.set q { f with loc := f.loc.set k x } } n q { f with loc := f.loc.set k x } G fcap vS (.slice (some ⟨gL, 0, none⟩) f.loc.length cL) vh vs ch cf Th Tf := by
  obtain ⟨hf, hT⟩ := h.own.f.elem h.last h.row (j0 := 1) (rr := f.loc) rfl rfl hk x (x' := { f with loc := f.loc.set k x }) rfl rfl
  have hblk : Blk (.slice (some ⟨G, 0, none⟩) n fcap) Tf gL := .inr ⟨_, _, hT⟩
  refine ⟨fun i y hy => ?_, h.low, h.own.withF hB (by rw [setV_size]; exact Nat.le_refl _) hf (fun b hb => setV_block w gL k x fun e => ?_) (fun b hb => .inl hb), h.ne, by simpa using h.len, set_at h.at', h.row⟩
  · have hM : M ≠ gL := fun e => h.ne gL (.inr (.inl hblk)) e.symm
    exact ((h.cells.far ⟨gL, k * 2, none⟩ _ (fun e => hM e.symm)).far ⟨gL, k * 2 + 1, none⟩ _ (fun e => hM e.symm)) i y hy
  · subst e
    rcases hb with hb | hb
    · exact h.own.hf _ hb hblk
    · exact h.own.fs _ hblk hb
/-- A field of an object set. -/
theorem Tp.setFld (h : Tp B M w m n q f G fcap vS vL vh vs ch cf Th Tf) (hB : B ≤ w.heap.size) {i : Nat} {o : Ob} (ho : m.heap[i]? = some o) {gO cO : Nat} (hc : ch[i]? = some [.slice (some ⟨gO, 0, none⟩) o.flds.length cO]) {k : Nat} (hk : k < o.flds.length) (x : Vl) :
    Tp B M (setV w gO k x) { m with heap := m.heap.set i { o with flds := o.flds.set k x } } n q f G fcap vS vL vh vs ch cf Th Tf := by
  obtain ⟨hh, hT⟩ := h.own.h.elem ho hc (j0 := 0) (rr := o.flds) rfl rfl hk x (x' := { o with flds := o.flds.set k x }) rfl rfl
  have hblk : Blk vh Th gO := .inr ⟨_, _, hT⟩
  refine ⟨fun i y hy => ?_, h.low, h.own.withH hB (by rw [setV_size]; exact Nat.le_refl _) hh (fun b hb => setV_block w gO k x fun e => ?_) (fun b hb => .inl hb), h.ne, h.len, h.at', h.row⟩
  · have hM : M ≠ gO := fun e => h.ne gO (.inl hblk) e.symm
    exact ((h.cells.far ⟨gO, k * 2, none⟩ _ (fun e => hM e.symm)).far ⟨gO, k * 2 + 1, none⟩ _ (fun e => hM e.symm)) i y hy
  · subst e
    rcases hb with hb | hb
    · exact h.own.hf _ hblk hb
    · exact h.own.hs _ hblk hb
/-- One more said: the row grown, its place in the machine set. -/
theorem Tp.say (h : Tp B M u m n q f G fcap vS vL vh vs ch cf Th Tf) (hB : B ≤ u.heap.size) (hb : Below u.heap.size u w) {w' : World} {v' : Value} {sd : List Int} (hown : w'.ownsRow B 2 1 v' sd.length (nums sd)) (hgr : w.grownBy w' vs.ownBlock) (hv' : v'.ownBlock = vs.ownBlock ∨ v'.ownBlock = some w.heap.size) :
    Tp B M (w'.setCell ⟨M, 2, none⟩ v') { m with said := sd } n q f G fcap vS vL vh v' ch cf Th Tf := by
  have hw := h.on hb
  have hsz : w.heap.size ≤ w'.heap.size := hgr.size
  have hz : (w'.setCell ⟨M, 2, none⟩ v').heap.size = w'.heap.size := by simp
  have hblk : ∀ k, k < w.heap.size → vs.ownBlock ≠ some k → k ≠ M → (w'.setCell ⟨M, 2, none⟩ v').heap[k]? = w.heap[k]? := fun k hk hne hM => by
    rw [set_blocks w' _ _ k (fun e => hM e.symm)]
    exact hgr.block k hk fun e => hne e.symm
  have hMs : vs.ownBlock ≠ some M := fun e => h.ne M (.inr (.inr e)) rfl
  have hMv : v'.ownBlock ≠ some M := by
    rcases hv' with e | e
    · rw [e]; exact hMs
    · rw [e]; intro e'; injection e' with e'; have := hw.mlt; omega
  refine ⟨?_, h.low, ?_, fun k hk => ?_, h.len, h.at', h.row⟩
  · have hc : Cells w' M [vh, .slice (some ⟨G, 0, none⟩) n fcap, vs, .int .i64 m.fin, .int .i64 m.code] := fun i x hx => by
      obtain ⟨a, b⟩ := hw.cells i x hx
      have e := hgr.block M hw.mlt fun e => hMs e.symm
      exact ⟨(World.cell?_of_block (w := w) e).trans a, (World.frozen?_of_block (w := w) e).trans b⟩
    exact hc.s2 _
  · refine hw.own.withS (Nat.le_trans hB hb.size) (by rw [hz]; exact hsz) (own_moved hown fun g hg => set_blocks w' _ _ g fun e => hMv (by rw [hg, ← e])) (fun k hk => hblk k (hw.own.lt k (hk.elim .inl fun h => .inr (.inl h))) (fun e => by
      rcases hk with hk | hk
      · exact hw.own.hs k hk e
      · exact hw.own.fs k hk e) (h.ne k (hk.elim .inl fun h => .inr (.inl h)))) (fun k hk => ?_)
    rcases hv' with e | e
    · rw [e] at hk; exact .inl hk
    · rw [e] at hk; injection hk with hk; exact .inr (by omega)
  · rcases hk with hk | hk | hk
    · exact h.ne k (.inl hk)
    · exact h.ne k (.inr (.inl hk))
    · exact fun e => hMv (by rw [hk, e])
/-- One more object: the row grown, its place in the machine set. -/
theorem Tp.new (h : Tp B M u m n q f G fcap vS vL vh vs ch cf Th Tf) (hB : B ≤ u.heap.size) (hb : Below u.heap.size u w) {w' : World} {v' y : Value} {o : Ob} (hV : VZ (fun k => u.heap.size ≤ k ∧ k < w.heap.size) w y o.flds)
    (hown : w'.ownsRow B 118 2 v' (m.heap.length + 1) ((recs recO m.heap ch).flatten ++ [.int .i64 o.cls, y])) (hgr : w.grownBy w' vh.ownBlock) (hv' : v'.ownBlock = vh.ownBlock ∨ v'.ownBlock = some w.heap.size) :
    ∃ ch' Th', Tp B M (w'.setCell ⟨M, 0, none⟩ v') { m with heap := m.heap ++ [o] } n q f G fcap vS vL v' vs ch' cf Th' Tf := by
  have hw := h.on hb
  have hsz : w.heap.size ≤ w'.heap.size := hgr.size
  have hz : (w'.setCell ⟨M, 0, none⟩ v').heap.size = w'.heap.size := by simp
  have hMs : vh.ownBlock ≠ some M := fun e => h.ne M (.inl (.inl e)) rfl
  have hMv : v'.ownBlock ≠ some M := by
    rcases hv' with e | e
    · rw [e]; exact hMs
    · rw [e]; intro e'; injection e' with e'; have := hw.mlt; omega
  have happ := hw.own.h.app (R := recO) (x := o) (ys := [y]) (U := fun j k => j = 0 ∧ u.heap.size ≤ k ∧ k < w.heap.size) (w := w') (v' := v') hown hgr hv' rfl
    (fun j rr z hr hzz => by
      cases j with
      | zero =>
        simp [recO] at hr hzz
        subst hr hzz
        exact hV.weak fun k hk => ⟨rfl, hk⟩
      | succ j => simp at hzz)
    (fun j k hk => ⟨hk.2.2, fun e => by have := (h.own.h.own.lt k e).2; omega, fun i j' ht => by have := h.own.h.lt i j' k ht; omega⟩)
    (fun j j' k hk hk' => hk.1.trans hk'.1.symm)
  have hTm : ∀ i j k, (if i = m.heap.length then (j = 0 ∧ u.heap.size ≤ k ∧ k < w.heap.size) else Th i j k) → k ≠ M := fun i j k hk => by
    split at hk
    · have := h.mlt; omega
    · exact h.ne k (.inl (.inr ⟨i, j, hk⟩))
  refine ⟨ch ++ [[y]], fun i j k => if i = m.heap.length then (j = 0 ∧ u.heap.size ≤ k ∧ k < w.heap.size) else Th i j k, ?_, h.low, ?_, fun k hk => ?_, h.len, h.at', h.row⟩
  · have hc : Cells w' M [vh, .slice (some ⟨G, 0, none⟩) n fcap, vs, .int .i64 m.fin, .int .i64 m.code] := fun i x hx => by
      obtain ⟨a, b⟩ := hw.cells i x hx
      have e := hgr.block M hw.mlt fun e => hMs e.symm
      exact ⟨(World.cell?_of_block (w := w) e).trans a, (World.frozen?_of_block (w := w) e).trans b⟩
    exact hc.s0 _
  · refine h.own.withH hB (by rw [hz]; exact Nat.le_trans hb.size hsz) (happ.moved (by rw [hz]; exact Nat.le_refl _) (fun g hg => set_blocks w' _ _ g fun e => hMv (by rw [hg, ← e])) (fun i j k hk => set_blocks w' _ _ k fun e => hTm i j k hk e.symm)) (fun k hk => ?_) (fun k hk => ?_)
    · have hkl := h.own.lt k (hk.elim (fun h => .inr (.inl h)) fun h => .inr (.inr h))
      rw [set_blocks w' _ _ k (fun e => h.ne k (hk.elim (fun h => .inr (.inl h)) fun h => .inr (.inr h)) e.symm), hgr.block k (Nat.lt_of_lt_of_le hkl hb.size) (fun e => ?_)]
      · exact hb.block k hkl
      · rcases hk with hk | hk
        · exact h.own.hf k (.inl e.symm) hk
        · exact h.own.hs k (.inl e.symm) hk
    · rcases hk with hk | ⟨i, j, hk⟩
      · rcases hv' with e | e
        · rw [e] at hk; exact .inl (.inl hk)
        · rw [e] at hk; injection hk with hk; have := hb.size; exact .inr (by omega)
      · split at hk
        · exact .inr hk.2.1
        · exact .inl (.inr ⟨_, _, hk⟩)
  · rcases hk with (hk | ⟨i, j, hk⟩) | hk | hk
    · exact fun e => hMv (by rw [hk, e])
    · exact hTm i j k hk
    · exact h.ne k (.inr (.inl hk))
    · exact h.ne k (.inr (.inr hk))
end Pg
end Go.Proofs.Ytffkkhaiedhaiaa

/- A machine of one's own: a frame more, and fewer frames. -/
namespace Go.Proofs.Ytffkkhaiedhaiaa
namespace Pg
open Go.ChangeShapes Go.WideShapes Go.ChangeAt Go.RowKit St

variable {B M G fcap : Nat} {u w : World} {vh vs vS vL : Value} {m : Mc} {n q : Nat} {f : Fr} {ch cf : List (List Value)} {Th Tf : Nat → Nat → Nat → Prop}
/-- One frame more, its stack empty. -/
theorem Tp.more (h : Tp B M u m n q f G fcap vS vL vh vs ch cf Th Tf) (hB : B ≤ u.heap.size) (hb : Below u.heap.size u w) {w' : World} {v' y : Value} {x : Fr} (hx : x.stk = []) (hV : VZ (fun k => u.heap.size ≤ k ∧ k < w.heap.size) w y x.loc)
    (hown : w'.ownsRow B 49 5 v' (n + 1) ((recs recF m.frames cf).flatten ++ [.int .i64 x.cls, .int .i64 x.name, .int .i64 x.pos, .slice none 0 0, y])) (hgr : w.grownBy w' (some G)) (hv' : v'.ownBlock = some G ∨ v'.ownBlock = some w.heap.size) :
    MSt B M (w'.setCell ⟨M, 1, none⟩ v') { m with frames := m.frames ++ [x] } := by
  have hw := h.on hb
  have hsz : w.heap.size ≤ w'.heap.size := hgr.size
  have hz : (w'.setCell ⟨M, 1, none⟩ v').heap.size = w'.heap.size := by simp
  have hMv : v'.ownBlock ≠ some M := by
    rcases hv' with e | e
    · rw [e]; intro e'; injection e' with e'; exact h.gm e'
    · rw [e]; intro e'; injection e' with e'; have := hw.mlt; omega
  have happ := hw.own.f.app (R := recF) (x := x) (ys := [.slice none 0 0, y]) (U := fun j k => j = 1 ∧ u.heap.size ≤ k ∧ k < w.heap.size) (w := w') (v' := v') (by rw [h.len]; exact hown) hgr hv' rfl
    (fun j rr z hr hzz => by
      match j, hr, hzz with
      | 0, hr, hzz =>
        simp [recF] at hr hzz
        subst hr hzz
        exact .inr ⟨rfl, hx⟩
      | 1, hr, hzz =>
        simp [recF] at hr hzz
        subst hr hzz
        exact hV.weak fun k hk => ⟨rfl, hk⟩
      | j + 2, hr, hzz => simp at hzz)
    (fun j k hk => ⟨hk.2.2, fun e => by have := (h.own.f.own.lt k e).2; omega, fun i j' ht => by have := h.own.f.lt i j' k ht; omega⟩)
    (fun j j' k hk hk' => hk.1.trans hk'.1.symm)
  have hTm : ∀ i j k, (if i = m.frames.length then (j = 1 ∧ u.heap.size ≤ k ∧ k < w.heap.size) else Tf i j k) → k ≠ M := fun i j k hk => by
    split at hk
    · have := h.mlt; omega
    · exact h.ne k (.inr (.inl (.inr ⟨i, j, hk⟩)))
  refine ⟨vh, v', vs, ch, cf ++ [[.slice none 0 0, y]], Th, fun i j k => if i = m.frames.length then (j = 1 ∧ u.heap.size ≤ k ∧ k < w.heap.size) else Tf i j k, ?_, h.low, ?_, fun k hk => ?_⟩
  · have hc : Cells w' M [vh, .slice (some ⟨G, 0, none⟩) n fcap, vs, .int .i64 m.fin, .int .i64 m.code] := fun i x hx => by
      obtain ⟨a, b⟩ := hw.cells i x hx
      have e := hgr.block M hw.mlt fun e => h.gm (by injection e with e; exact e.symm)
      exact ⟨(World.cell?_of_block (w := w) e).trans a, (World.frozen?_of_block (w := w) e).trans b⟩
    exact hc.s1 _
  · refine h.own.withF hB (by rw [hz]; exact Nat.le_trans hb.size hsz) (happ.moved (by rw [hz]; exact Nat.le_refl _) (fun g hg => set_blocks w' _ _ g fun e => hMv (by rw [hg, ← e])) (fun i j k hk => set_blocks w' _ _ k fun e => hTm i j k hk e.symm)) (fun k hk => ?_) (fun k hk => ?_)
    · have hkl := h.own.lt k (hk.elim .inl fun h => .inr (.inr h))
      rw [set_blocks w' _ _ k (fun e => h.ne k (hk.elim .inl fun h => .inr (.inr h)) e.symm), hgr.block k (Nat.lt_of_lt_of_le hkl hb.size) (fun e => ?_)]
      · exact hb.block k hkl
      · injection e with e
        subst e
        rcases hk with hk | hk
        · exact h.own.hf k hk (.inl rfl)
        · exact h.own.fs k (.inl rfl) hk
    · rcases hk with hk | ⟨i, j, hk⟩
      · rcases hv' with e | e
        · rw [e] at hk; exact .inl (.inl hk)
        · rw [e] at hk; injection hk with hk; have := hb.size; exact .inr (by omega)
      · split at hk
        · exact .inr hk.2.1
        · exact .inl (.inr ⟨_, _, hk⟩)
  · rcases hk with hk | (hk | ⟨i, j, hk⟩) | hk
    · exact h.ne k (.inl hk)
    · exact fun e => hMv (by rw [hk, e])
    · exact hTm i j k hk
    · exact h.ne k (.inr (.inr hk))
/-- The first frames alone, in a row anew. -/
theorem Tp.less (h : Tp B M u m n q f G fcap vS vL vh vs ch cf Th Tf) (hB : B ≤ u.heap.size) (hb : Below u.heap.size u w) {v' : Value} {k0 : Nat} (hk0 : k0 ≤ m.frames.length)
    (hown : w.ownsRow B 49 5 v' k0 (((recs recF m.frames cf).flatten).take (k0 * 5))) (hv' : ∀ k, v'.ownBlock = some k → u.heap.size ≤ k) :
    MSt B M (w.setCell ⟨M, 1, none⟩ v') { m with frames := m.frames.take k0 } := by
  have hw := h.on hb
  have hz : (w.setCell ⟨M, 1, none⟩ v').heap.size = w.heap.size := by simp
  have hMv : v'.ownBlock ≠ some M := fun e => by have := hv' M e; have := h.mlt; omega
  have hfl : ∀ (L : List (List Value)) (q : Nat), (∀ y ∈ L, y.length = 5) → q ≤ L.length → L.flatten.take (q * 5) = (L.take q).flatten := by
    intro L
    induction L with
    | nil => intro q _ h; simp at h; subst h; simp
    | cons z L ih =>
      intro q hy hq
      cases q with
      | zero => simp
      | succ q =>
        have hz := hy z (by simp)
        rw [List.flatten_cons, List.take_succ_cons, List.flatten_cons, ← ih q (fun y h => hy y (by simp [h])) (by simpa using hq), List.take_append, hz, Nat.succ_mul]
        rw [List.take_of_length_le (by omega), Nat.add_sub_cancel]
  have hf : OwnRc recF B w v' (m.frames.take k0) (cf.take k0) (fun i j k => i < k0 ∧ Tf i j k) := by
    refine ⟨by simp [h.own.f.len], ?_, fun i j k hk e => by have := hv' k e; have := h.own.f.lt i j k hk.2; omega, fun i j k hk => Nat.lt_of_lt_of_le (h.own.f.lt i j k hk.2) hb.size, fun i j i' j' k hk hk' => h.own.f.one i j i' j' k hk.2 hk'.2, fun i ys hy => ?_, fun i x ys h1 h2 j rr y h3 h4 => ?_⟩
    · rw [hfl _ k0 h.own.f.wide (by rw [recs_len h.own.f.len]; exact hk0)] at hown
      rw [List.length_take, Nat.min_eq_left hk0]
      unfold recs at hown ⊢
      rwa [List.take_zipWith] at hown
    · rw [List.getElem?_take] at hy
      split at hy
      · exact h.own.f.wid i ys hy
      · simp at hy
    · rw [List.getElem?_take] at h1 h2
      split at h1
      · rename_i hi
        rw [if_pos hi] at h2
        exact ((hw.own.f.row i x ys h1 h2 j rr y h3 h4)).weak fun k hk => ⟨hi, hk⟩
      · simp at h1
  refine ⟨vh, v', vs, ch, cf.take k0, Th, fun i j k => i < k0 ∧ Tf i j k, hw.cells.s1 _, h.low, ?_, fun k hk => ?_⟩
  · refine h.own.withF hB (by rw [hz]; exact hb.size) (hf.moved (by rw [hz]; exact Nat.le_refl _) (fun g hg => set_blocks w _ _ g fun e => hMv (by rw [hg, ← e])) (fun i j k hk => set_blocks w _ _ k fun e => h.ne k (.inr (.inl (.inr ⟨i, j, hk.2⟩))) e.symm)) (fun k hk => ?_) (fun k hk => ?_)
    · have hkl := h.own.lt k (hk.elim .inl fun h => .inr (.inr h))
      rw [set_blocks w _ _ k (fun e => h.ne k (hk.elim .inl fun h => .inr (.inr h)) e.symm)]
      exact hb.block k hkl
    · rcases hk with hk | ⟨i, j, hk⟩
      · exact .inr (hv' k hk)
      · exact .inl (.inr ⟨i, j, hk.2⟩)
  · rcases hk with hk | (hk | ⟨i, j, hk⟩) | hk
    · exact h.ne k (.inl hk)
    · exact fun e => hMv (by rw [hk, e])
    · exact h.ne k (.inr (.inl (.inr ⟨i, j, hk.2⟩)))
    · exact h.ne k (.inr (.inr hk))
end Pg
end Go.Proofs.Ytffkkhaiedhaiaa

/- Contracts of the other side's questions about those above. -/
namespace Go.Proofs.Ytffkkhaiedhaiaa
namespace Pg
open Go.ChangeShapes Go.WideShapes Go.ChangeAt Go.RowKit St

set_option maxRecDepth 100000 in
set_option maxHeartbeats 1000000 in
theorem l5Above (B : Nat) (p : Prg) (a : Option Addr) (cap : Nat) (u0 : Int) (hu0 : -1 ≤ u0) (hu1 : u0 < (p.length : Int)) (h6 : p.length ≤ 6) (hsup : SupOk p p.length) (w : World) (hp : SK front B w (.slice a p.length cap) p) :
    Calls Try.prog 114 #[.agg #[.slice a p.length cap], .int .i64 u0] w fun e w' => ∃ v, e = .returned v ∧ Grow w.heap.size w' v (upL p u0) ∧ Below w.heap.size w w' := by
  obtain ⟨i0, hif, hz0, hz1, hz2⟩ := info_parts infoN
  have HP : Hid (SK front B w (.slice a p.length cap) p) := hp
  have HSUP : Hid (SupOk p p.length) := hsup
  clear hp hsup
  obtain ⟨W, hW⟩ : ∃ W, W = w.alloc (.cells #[.slice a p.length cap] 39) := ⟨_, rfl⟩
  have hwW : Below w.heap.size w W := by rw [hW]; exact (Below.refl _ _).alloc (Nat.le_refl _) _
  have P0 : Hid (Cells W w.heap.size [.slice a p.length cap]) := by rw [hW]; exact Cells.new w _ rfl _ _
  have G0 : Hid (Grow W.heap.size (W.alloc (.cells #[] 2)) (.slice (some ⟨W.heap.size, 0, none⟩) 0 0) []) := grow_start W
  have HSZ : Hid (W.heap.size = w.heap.size + 1) := by show _ = _; rw [hW]; simp
  go_enter Try.func114, Try.ntmps114
  go_wp2
  rw [← HSZ.out, ← hW]
  clear hW
  go_loopw [1, 5] (fun x y wr => ∃ (pre : List Int) (u : Int) (v0 : Value), x = .int .i64 u ∧ v0 = y ∧ -1 ≤ u ∧ u < (p.length : Int) ∧ Hid (upL p u0 = pre ++ upL p u) ∧ Hid (Grow W.heap.size wr v0 pre) ∧ Below W.heap.size W wr) (fun x _ _ => (intOf x + 1).toNat)
  case atStart => exact ⟨[], u0, _, rfl, rfl, hu0, hu1, by show _ = _; simp, G0.out, (Below.refl _ _).alloc (Nat.le_refl _) _⟩
  case round =>
    clear hu0 hu1 G0
    obtain ⟨pre, u, v0, rfl, rfl, hu0, hu1, hx, hg, hb⟩ := hrel
    have hwr : Below w.heap.size w wr := hwW.trans (hb.mono hwW.size)
    by_cases hneg : u = -1
    · have HE : Hid (upL p u0 = pre) := by
        show _ = _
        rw [hx.out, hneg, upL_neg p (by omega)]; simp
      obtain ⟨g, cp, rfl⟩ := hg.out.form
      have HG : Hid (Grow w.heap.size wr (.slice (some ⟨g, 0, none⟩) pre.length cp) (upL p u0)) := by
        rw [HE.out]; exact hg.out.base' (by have := HSZ.out; omega)
      subst hneg
      clear hx hg HE
      go_wp2
      go_ret
      exact ⟨_, rfl, HG.out, hwr⟩
    · obtain ⟨j, rfl⟩ := Int.eq_ofNat_of_zero_le (show 0 ≤ u by omega)
      have hjp : j < p.length := by omega
      have hji : (j : Int) < (p.length : Int) := by omega
      have hj0 : (0 : Int) ≤ (j : Int) := by omega
      have HST : Hid (upL p u0 = (pre ++ [(j : Int)]) ++ upL p p[j].super) := by
        show _ = _
        rw [hx.out, upL_step HSUP.out hjp (by omega) (List.getElem?_eq_getElem hjp)]; simp
      have hlen : pre.length < 6 := by
        have h1 := upL_len p u0
        rw [HST.out] at h1
        simp at h1
        omega
      obtain ⟨b, o, rfl, _, vf, vm, d0, d1, d2, hcv⟩ := HP.out.get hjp
      have l0 : b < w.heap.size := cell_lt d0
      have hsu := HSUP.out j _ hjp (List.getElem?_eq_getElem hjp)
      generalize p[j] = c at *
      have hsu1 := hsu.1
      have hsu2 := hsu.2
      clear hcv hsu d1 d2 hneg hx
      obtain ⟨g, cp, rfl⟩ := hg.out.form
      have hzr : W.heap.size ≤ wr.heap.size := hb.size
      go_wp2_with (at_builtin; refine wpList_append_own _ rfl _ _ 27 rfl W.heap.size 2 i0 (.int .i64 0) 1 8 Try.underlying27 hif hz0 hz1 hz2 rfl (by decide) _ _ _ rfl (hg.out.1.alloc _) ⟨wr.heap.size, 0, none⟩ 1 1 [.int .i64 (j : Int)] rfl rfl (cell_one_new _ _ _) (by simp [Value.oneCell']) (by unfold maxLen; omega) (by omega) (by simp; omega) ?_)
      intro v' w1 hown hgrow hnil
      have hb1 : Below W.heap.size W w1 := (hb.alloc hb.size _).grown hgrow (by simp; omega) (fun k hk => by simp [Value.ownBlock] at hk; subst hk; exact (hg.out.1.lt g rfl).1)
      have HG : Hid (Grow W.heap.size w1 v' (pre ++ [(j : Int)])) := grow_next hown (fun h => by first | exact hnil h | exact absurd (hnil.1 h).1 (by simp))
      clear hown hgrow hnil
      obtain ⟨p0, _⟩ := (cells_lowP P0.out hb1 (by have := HSZ.out; omega)).g0
      have hw1 : Below w.heap.size w w1 := hwW.trans (hb1.mono hwW.size)
      have c0 := (hw1.cell l0).trans d0
      clear hb hwr hg
      go_wp2
      go_roundw
      case rel => exact ⟨pre ++ [(j : Int)], c.super, v', rfl, rfl, hsu1, by omega, HST.out, HG.out, hb1⟩
      case measure => simp [intOf]; omega
set_option maxHeartbeats 1000000 in
theorem l5Under (B : Nat) (p : Prg) (a : Option Addr) (cap : Nat) (u0 b : Int) (hu0 : -1 ≤ u0) (hu1 : u0 < (p.length : Int)) (h6 : p.length ≤ 6) (hsup : SupOk p p.length) (w : World) (hp : SK front B w (.slice a p.length cap) p) :
    Calls Try.prog 107 #[.agg #[.slice a p.length cap], .int .i64 u0, .int .i64 b] w fun e w' => e = .returned (.bool (undB p u0 b)) ∧ Below w.heap.size w w' := by
  obtain ⟨W, hW⟩ : ∃ W, W = w.alloc (.cells #[.slice a p.length cap] 39) := ⟨_, rfl⟩
  have hwW : Below w.heap.size w W := by rw [hW]; exact (Below.refl _ _).alloc (Nat.le_refl _) _
  have HP : Hid (SK front B W (.slice a p.length cap) p) := SK.on hp (Keep.of hwW)
  have HSUP : Hid (SupOk p p.length) := hsup
  clear hp hsup
  go_enter Try.func107, Try.ntmps107
  go_wp2_with fail
  rw [← hW]
  clear hW
  refine (l5Above B p a cap u0 hu0 hu1 h6 HSUP.out _ HP.out).mono ?_
  rintro e w1 ⟨v, rfl, hg, hb1⟩
  obtain ⟨g, cp, rfl, _, _, hir, _⟩ := hg.gint
  have hw1 : Below w.heap.size w w1 := below_over hwW hb1
  have HI : Hid (IRow w1 g 0 (upL p u0)) := hir
  have hln := upL_len p u0
  clear hg hir hb1
  go_wp2_with fail
  refine (l1Has g cp (upL p u0) b (by omega) _ HI.out).mono ?_
  rintro e w2 ⟨rfl, rfl⟩
  go_wp2
  go_ret
  exact ⟨rfl, hw1⟩
theorem selF_neg (p : Prg) {u : Int} (b : Int) (h : u < 0) : selF p u b = -1 := by unfold selF; rw [upL_neg p h]; rfl
theorem selF_step {p : Prg} {n : Nat} (hs : SupOk p n) {u : Nat} (hu : u < n) (h6 : u < 6) {c : Cls} (hc : p[u]? = some c) (b : Int) : selF p (u : Int) b = if (ownF c b).isSome then (u : Int) else selF p c.super b := by
  unfold selF
  rw [upL_step hs hu h6 hc, find_step]
  have : hasM p b (u : Int) = (ownF c b).isSome := by unfold hasM; rw [Int.toNat_natCast, hc]
  rw [this]
  split <;> rfl
theorem ownI_neg (c : Cls) (name : Int) : decide (ownI c name < 0) = !(ownF c name).isSome := by
  unfold ownI ownF
  cases h : c.meths.findIdx? (fun m => decide (m.name = name)) with
  | none =>
    have h2 : c.meths.find? (fun m => decide (m.name = name)) = none := by
      rw [List.find?_eq_none]
      intro m hm
      have := (List.findIdx?_eq_none_iff.1 h) m hm
      simpa using this
    rw [h2]; rfl
  | some k =>
    have h2 : (c.meths.find? (fun m => decide (m.name = name))).isSome = true := by
      rw [List.findIdx?_eq_some_iff_getElem] at h
      obtain ⟨hk, hp, _⟩ := h
      rw [List.find?_isSome]
      exact ⟨c.meths[k], List.getElem_mem hk, hp⟩
    rw [h2]
    simp
set_option maxRecDepth 100000 in
set_option maxHeartbeats 1000000 in
theorem l5Selected (B : Nat) (p : Prg) (a : Option Addr) (cap : Nat) (u0 b : Int) (hu0 : -1 ≤ u0) (hu1 : u0 < (p.length : Int)) (hsp : SmallP p) (h6 : p.length ≤ 6) (hsup : SupOk p p.length) (w : World) (hp : SK front B w (.slice a p.length cap) p) :
    Calls Try.prog 108 #[.agg #[.slice a p.length cap], .int .i64 u0, .int .i64 b] w fun e w' => e = .returned (.int .i64 (selF p u0 b)) ∧ Below w.heap.size w w' := by
  have HP : Hid (SK front B w (.slice a p.length cap) p) := hp
  have HSUP : Hid (SupOk p p.length) := hsup
  have HSP : Hid (SmallP p) := hsp
  clear hp hsup hsp
  obtain ⟨W, hW⟩ : ∃ W, W = w.alloc (.cells #[.slice a p.length cap] 39) := ⟨_, rfl⟩
  have hwW : Below w.heap.size w W := by rw [hW]; exact (Below.refl _ _).alloc (Nat.le_refl _) _
  have P0 : Hid (Cells W w.heap.size [.slice a p.length cap]) := by rw [hW]; exact Cells.new w _ rfl _ _
  go_enter Try.func108, Try.ntmps108
  go_wp2
  rw [← hW]
  clear hW
  go_loopw [1] (fun x wr => ∃ u : Int, x = .int .i64 u ∧ -1 ≤ u ∧ u < (p.length : Int) ∧ Hid (selF p u0 b = selF p u b) ∧ Below W.heap.size W wr) (fun x _ => (intOf x + 1).toNat)
  case atStart => exact ⟨u0, rfl, hu0, hu1, rfl, Below.refl _ _⟩
  case round =>
    clear hu0 hu1
    obtain ⟨u, rfl, hu0, hu1, hx, hb⟩ := hrel
    have hwr : Below w.heap.size w wr := below_over hwW hb
    by_cases hneg : u = -1
    · have HE : Hid (selF p u0 b = -1) := by show _ = _; rw [hx.out, hneg]; exact selF_neg p b (by omega)
      subst hneg
      go_wp2
      go_ret
      exact ⟨retI HE.out.symm, hwr⟩
    · obtain ⟨j, rfl⟩ := Int.eq_ofNat_of_zero_le (show 0 ≤ u by omega)
      have hjp : j < p.length := by omega
      have hji : (j : Int) < (p.length : Int) := by omega
      have hj0 : (0 : Int) ≤ (j : Int) := by omega
      have HST : Hid (selF p u0 b = if (ownF p[j] b).isSome then (j : Int) else selF p p[j].super b) := by
        show _ = _
        rw [hx.out, selF_step HSUP.out hjp (by omega) (List.getElem?_eq_getElem hjp)]
      obtain ⟨b', o, rfl, _, vf, vm, d0, d1, d2, hcv⟩ := HP.out.get hjp
      obtain ⟨z1, t1, rfl⟩ := hcv.1.form
      obtain ⟨z2, t2, rfl⟩ := hcv.2.form
      have l0 : b' < w.heap.size := cell_lt d0
      have hsu := HSUP.out j _ hjp (List.getElem?_eq_getElem hjp)
      have HSM : Hid (SM front B w (.slice z2 p[j].meths.length t2) p[j].meths) := hcv.2
      have hsm := HSP.out.2 _ (List.getElem_mem hjp)
      have hsl := hsm.2.1
      have k0 := (hwr.cell l0).trans d0
      have k1 := (hwr.cell l0).trans d1
      have k2 := (hwr.cell l0).trans d2
      generalize p[j] = c at *
      have hsu1 := hsu.1
      have hsu2 := hsu.2
      clear hcv hsu d1 d2 hneg hx hsm
      obtain ⟨p0, _⟩ := (P0.out.on hb).g0
      go_wp2_with fail
      refine (l4Own B c z1 z2 t2 c.fields.length t1 b hsl _ (SM.on HSM.out (Keep.of hwr))).mono ?_
      rintro e w1 ⟨rfl, hb1⟩
      have hw1 : Below w.heap.size w w1 := below_over hwr hb1
      have hW1 : Below W.heap.size W w1 := below_over hb hb1
      have c0 := (hw1.cell l0).trans d0
      clear p0 k0 k1 k2
      obtain ⟨p0, _⟩ := (P0.out.on hW1).g0
      clear hb1 hb hwr
      have HO1 : Hid (ownI c b < 0 → (ownF c b).isSome = false) := fun h => by have := ownI_neg c b; rw [decide_eq_true h] at this; simpa using this.symm
      have HO2 : Hid (¬ ownI c b < 0 → (ownF c b).isSome = true) := fun h => by have := ownI_neg c b; rw [decide_eq_false h] at this; simpa using this.symm
      generalize ownI c b = oi at *
      by_cases hq : oi < 0
      · have HE : Hid (selF p u0 b = selF p c.super b) := by
          show _ = _
          rw [HST.out, HO1.out hq]; rfl
        clear HST HO1 HO2
        go_wp2
        go_roundw
        case rel => exact ⟨c.super, rfl, hsu1, by omega, HE.out, hW1⟩
        case measure => simp [intOf]; omega
      · have HE : Hid (selF p u0 b = (j : Int)) := by
          show _ = _
          rw [HST.out, HO2.out hq]; rfl
        clear HST HO1 HO2
        go_wp2
        go_ret
        exact ⟨retI HE.out.symm, hw1⟩
end Pg
end Go.Proofs.Ytffkkhaiedhaiaa

/- A machine of one's own: what lies where, and how it is read. -/
import Derived.Test.YtffkkhaiedhaiaaJMo0
namespace Go.Proofs.Ytffkkhaiedhaiaa
namespace Pg
open Go.ChangeShapes Go.WideShapes Go.ChangeAt Go.RowKit St

/-- The blocks of a row of records. -/
def Blk (v : Value) (T : Nat → Nat → Nat → Prop) (k : Nat) : Prop := v.ownBlock = some k ∨ ∃ i j, T i j k
/-- A machine of one's own: its three rows, all blocks apart. -/
structure MOwn (B : Nat) (w : World) (vh vf vs : Value) (m : Mc) (ch cf : List (List Value)) (Th Tf : Nat → Nat → Nat → Prop) : Prop where
  h : OwnRc recO B w vh m.heap ch Th
  f : OwnRc recF B w vf m.frames cf Tf
  s : w.ownsRow B 2 1 vs m.said.length (nums m.said)
  hf : ∀ k, Blk vh Th k → ¬ Blk vf Tf k
  hs : ∀ k, Blk vh Th k → vs.ownBlock ≠ some k
  fs : ∀ k, Blk vf Tf k → vs.ownBlock ≠ some k
  low : ∀ k, Blk vh Th k ∨ Blk vf Tf k ∨ vs.ownBlock = some k → B ≤ k
variable {B : Nat} {u w : World} {vh vf vs : Value} {m : Mc} {ch cf : List (List Value)} {Th Tf : Nat → Nat → Nat → Prop}
theorem MOwn.moved (h : MOwn B u vh vf vs m ch cf Th Tf) (hz : u.heap.size ≤ w.heap.size) (hb : ∀ k, Blk vh Th k ∨ Blk vf Tf k ∨ vs.ownBlock = some k → w.heap[k]? = u.heap[k]?) : MOwn B w vh vf vs m ch cf Th Tf :=
  ⟨h.h.moved hz (fun g hg => hb g (.inl (.inl hg))) (fun i j k hk => hb k (.inl (.inr ⟨i, j, hk⟩))), h.f.moved hz (fun g hg => hb g (.inr (.inl (.inl hg)))) (fun i j k hk => hb k (.inr (.inl (.inr ⟨i, j, hk⟩)))), own_moved h.s fun g hg => hb g (.inr (.inr hg)), h.hf, h.hs, h.fs, h.low⟩
theorem MOwn.lt (h : MOwn B u vh vf vs m ch cf Th Tf) : ∀ k, Blk vh Th k ∨ Blk vf Tf k ∨ vs.ownBlock = some k → k < u.heap.size := by
  rintro k ((hk | ⟨i, j, hk⟩) | (hk | ⟨i, j, hk⟩) | hk)
  · exact (h.h.own.lt k hk).2
  · exact h.h.lt i j k hk
  · exact (h.f.own.lt k hk).2
  · exact h.f.lt i j k hk
  · exact (h.s.lt k hk).2
theorem MOwn.on (h : MOwn B u vh vf vs m ch cf Th Tf) (hb : Below u.heap.size u w) : MOwn B w vh vf vs m ch cf Th Tf := h.moved hb.size fun k hk => hb.block k (h.lt k hk)
theorem OwnRc.so {v : Value} {l : List Ob} {c : List (List Value)} {T : Nat → Nat → Nat → Prop} (h : OwnRc recO B w v l c T) : SO true 0 w v l := by
  obtain ⟨h1, ⟨rfl, h2⟩ | ⟨g, cap, cur, rfl, h3, h4, h5, h6, h7, h8⟩⟩ := h.own
  · rw [List.eq_nil_of_length_eq_zero h2]
    exact ⟨none, 0, rfl, fun _ _ => rfl, fun h => by simp at h⟩
  · refine ⟨_, cap, rfl, fun _ h => by simp at h, fun _ => ⟨g, 0, rfl, Nat.zero_le _, ⟨(h.own.lt g rfl).2, fun _ j _ => by simp [World.frozen?, h4]⟩, fun j x hj => ?_⟩⟩
    have hjl := (List.getElem?_eq_some_iff.1 hj).1
    have hc := List.getElem?_eq_getElem (show j < c.length by rw [h.len]; exact hjl)
    have hw := h.wid j _ hc
    obtain ⟨y, hy⟩ : ∃ y, c[j]'(by rw [h.len]; exact hjl) = [y] := List.length_eq_one_iff.1 hw
    rw [hy] at hc
    have c0 := h.cell hj hc (d := 0) (by decide)
    have c1 := h.cell hj hc (d := 1) (by decide)
    have hv := h.row j x _ hj hc 0 x.flds y rfl rfl
    rw [Nat.zero_add]
    exact ⟨y, c0, c1, hv.sv⟩
theorem two_of {α : Type} {l : List α} (h : l.length = 2) : ∃ y z, l = [y, z] := by
  match l, h with
  | [y, z], _ => exact ⟨y, z, rfl⟩
theorem OwnRc.sf {v : Value} {l : List Fr} {c : List (List Value)} {T : Nat → Nat → Nat → Prop} (h : OwnRc recF B w v l c T) : SF true 0 w v l := by
  obtain ⟨h1, ⟨rfl, h2⟩ | ⟨g, cap, cur, rfl, h3, h4, h5, h6, h7, h8⟩⟩ := h.own
  · rw [List.eq_nil_of_length_eq_zero h2]
    exact ⟨none, 0, rfl, fun _ _ => rfl, fun h => by simp at h⟩
  · refine ⟨_, cap, rfl, fun _ h => by simp at h, fun _ => ⟨g, 0, rfl, Nat.zero_le _, ⟨(h.own.lt g rfl).2, fun _ j _ => by simp [World.frozen?, h4]⟩, fun j x hj => ?_⟩⟩
    have hjl := (List.getElem?_eq_some_iff.1 hj).1
    have hc := List.getElem?_eq_getElem (show j < c.length by rw [h.len]; exact hjl)
    have hw := h.wid j _ hc
    obtain ⟨y, z, hy⟩ : ∃ y z, c[j]'(by rw [h.len]; exact hjl) = [y, z] := two_of hw
    rw [hy] at hc
    have c0 := h.cell hj hc (d := 0) (by decide)
    have c1 := h.cell hj hc (d := 1) (by decide)
    have c2 := h.cell hj hc (d := 2) (by decide)
    have c3 := h.cell hj hc (d := 3) (by decide)
    have c4 := h.cell hj hc (d := 4) (by decide)
    have hv := h.row j x _ hj hc 0 x.stk y rfl rfl
    have hu := h.row j x _ hj hc 1 x.loc z rfl rfl
    rw [Nat.zero_add]
    exact ⟨y, z, c0, c1, c2, c3, c4, hv.sv, hu.sv⟩
theorem own_si {v : Value} {l : List Int} (h : w.ownsRow B 2 1 v l.length (nums l)) : SI true 0 w v l := by
  by_cases hv : v = .slice none 0 0
  · have : l = [] := by
      obtain ⟨h1, ⟨_, h2⟩ | ⟨g, cap, cur, h3, _⟩⟩ := h
      · exact List.eq_nil_of_length_eq_zero h2
      · rw [hv] at h3; cases h3
    rw [hv, this]
    exact SI.nil _ _ _
  · obtain ⟨g, cap, rfl, _, h2, h3, h4⟩ := Grow.gint ⟨h, hv⟩
    exact SI.row (Nat.zero_le _) h2 h3 h4
theorem MOwn.kv (h : MOwn B w vh vf vs m ch cf Th Tf) : KV true 0 w vh vf vs m := ⟨h.h.so, h.f.sf, own_si h.s⟩
/-- A machine without anything. -/
theorem OwnRc.nil {α : Type} (R : RecT α) (B : Nat) (w : World) : OwnRc R B w (.slice none 0 0) [] [] (fun _ _ _ => False) :=
  ⟨rfl, ⟨by simp [recs], .inl ⟨rfl, rfl⟩⟩, fun _ _ _ h => h.elim, fun _ _ _ h => h.elim, fun _ _ _ _ _ h => h.elim, fun i ys h => by simp at h, fun i x ys h => by simp at h⟩
end Pg
end Go.Proofs.Ytffkkhaiedhaiaa

/- A row of records of one's own: a number, a row set; fewer of them. -/
namespace Go.Proofs.Ytffkkhaiedhaiaa
namespace Pg
open Go.ChangeShapes Go.WideShapes Go.ChangeAt Go.RowKit St

variable {α : Type} {R : RecT α} {B g n cap : Nat} {u w : World} {v : Value} {l : List α} {c : List (List Value)} {T : Nat → Nat → Nat → Prop}
theorem OwnRc.wide (h : OwnRc R B w v l c T) : ∀ y ∈ recs R l c, y.length = R.n + R.r := fun y hy => by
  obtain ⟨i, hi⟩ := List.getElem?_of_mem hy
  unfold recs at hi
  rw [List.getElem?_zipWith] at hi
  cases e1 : l[i]? with
  | none => rw [e1] at hi; simp at hi
  | some a =>
    cases e2 : c[i]? with
    | none => rw [e1, e2] at hi; simp at hi
    | some b =>
      rw [e1, e2] at hi
      simp at hi
      rw [← hi, List.length_append, R.hdn, h.wid i b e2]
/-- A record's cell set. -/
theorem OwnRc.stored (h : OwnRc R B w (.slice (some ⟨g, 0, none⟩) n cap) l c T) {i : Nat} {x x' : α} {ys ys' : List Value} (h1 : l[i]? = some x) (h2 : c[i]? = some ys) {d : Nat} (hd : d < R.n + R.r) {y : Value} (he : (R.hd x ++ ys).set d y = R.hd x' ++ ys') :
    (w.setCell ⟨g, i * (R.n + R.r) + d, none⟩ y).ownsRow B R.t (R.n + R.r) (.slice (some ⟨g, 0, none⟩) n cap) l.length (recs R (l.set i x') (c.set i ys')).flatten := by
  have hn : n = l.length := by
    obtain ⟨_, ⟨e, _⟩ | ⟨_, _, _, e, _⟩⟩ := h.own
    · cases e
    · injection e
  subst hn
  rw [recs_set h.len, ← he, ← flatten_set (recs R l c) h.wide i d _ y (recs_at h1 h2) hd]
  exact (h.own.stored _ y).1
theorem OwnRc.same (T : Nat → Nat → Nat → Prop) (i : Nat) : (fun i' j k => if i' = i then T i j k else T i' j k) = T := by
  funext i' j k
  by_cases e : i' = i
  · rw [if_pos e, e]
  · rw [if_neg e]
theorem set_blocks (w : World) (p : Addr) (y : Value) (k : Nat) (hk : p.block ≠ k) : (w.setCell p y).heap[k]? = w.heap[k]? := Below.heap_setCell w p y k fun e => hk e.symm
/-- A number of a record set. -/
theorem OwnRc.setHd (h : OwnRc R B w (.slice (some ⟨g, 0, none⟩) n cap) l c T) {i : Nat} {x x' : α} (h1 : l[i]? = some x) {d : Nat} (hd : d < R.n) {y : Value} (he : (R.hd x).set d y = R.hd x') (hr : R.rows x' = R.rows x) :
    OwnRc R B (w.setCell ⟨g, i * (R.n + R.r) + d, none⟩ y) (.slice (some ⟨g, 0, none⟩) n cap) (l.set i x') c T := by
  have hi := (List.getElem?_eq_some_iff.1 h1).1
  have h2 := List.getElem?_eq_getElem (show i < c.length by rw [h.len]; exact hi)
  have hb : ∀ i' j k, T i' j k → (w.setCell ⟨g, i * (R.n + R.r) + d, none⟩ y).heap[k]? = w.heap[k]? := fun i' j k hk => set_blocks w _ y k fun e => h.off i' j k hk (by rw [← e]; rfl)
  have hz : (w.setCell ⟨g, i * (R.n + R.r) + d, none⟩ y).heap.size = w.heap.size := by simp
  have key := h.turn (i := i) (x := x') (ys := c[i]'(by rw [h.len]; exact hi)) (U := T i) (w := w.setCell ⟨g, i * (R.n + R.r) + d, none⟩ y) hi (h.stored h1 h2 (by omega) (by rw [List.set_append_left _ _ (by rw [R.hdn]; exact hd), he])) (by rw [hz]; exact Nat.le_refl _) (fun i' j k _ hk => hb i' j k hk) (h.wid i _ h2)
    (fun j rr z hrr hzz => (h.row i x _ h1 h2 j rr z (by rw [← hr]; exact hrr) hzz).moved (by rw [hz]; exact Nat.le_refl _) fun k hk _ => hb i j k hk)
    (fun j k hk => ⟨by rw [hz]; exact h.lt i j k hk, h.off i j k hk, fun i' j' hne hk' => hne (h.one i' j' i j k hk' hk).1⟩) (fun j j' k hk hk' => (h.one i j i j' k hk hk').2)
  rw [OwnRc.same] at key
  have hcs : c.set i (c[i]'(by rw [h.len]; exact hi)) = c := List.set_getElem_self _
  rwa [hcs] at key
/-- A row of a record set. -/
theorem OwnRc.setRow (h : OwnRc R B w (.slice (some ⟨g, 0, none⟩) n cap) l c T) {i : Nat} {x x' : α} {ys : List Value} (h1 : l[i]? = some x) (h2 : c[i]? = some ys) {j0 : Nat} (hj : j0 < R.r) {y : Value} {r : List Vl} {V : Nat → Prop} (he : R.hd x' = R.hd x) (hr : R.rows x' = (R.rows x).set j0 r)
    (hV : VZ V w y r) (hVo : ∀ k, V k → k < w.heap.size ∧ k ≠ g ∧ ∀ i' j', ¬ T i' j' k) :
    OwnRc R B (w.setCell ⟨g, i * (R.n + R.r) + (R.n + j0), none⟩ y) (.slice (some ⟨g, 0, none⟩) n cap) (l.set i x') (c.set i (ys.set j0 y)) (fun i' j k => if i' = i then (if j = j0 then V k else T i j k) else T i' j k) := by
  have hi := (List.getElem?_eq_some_iff.1 h1).1
  have hyl := h.wid i ys h2
  have hb : ∀ i' j k, T i' j k → (w.setCell ⟨g, i * (R.n + R.r) + (R.n + j0), none⟩ y).heap[k]? = w.heap[k]? := fun i' j k hk => set_blocks w _ y k fun e => h.off i' j k hk (by rw [← e]; rfl)
  have hz : (w.setCell ⟨g, i * (R.n + R.r) + (R.n + j0), none⟩ y).heap.size = w.heap.size := by simp
  have hzl : w.heap.size ≤ (w.setCell ⟨g, i * (R.n + R.r) + (R.n + j0), none⟩ y).heap.size := by rw [hz]; exact Nat.le_refl _
  refine h.turn hi (h.stored h1 h2 (by omega) (by rw [List.set_append_right _ _ (by rw [R.hdn]; omega), R.hdn, Nat.add_sub_cancel_left, he])) hzl (fun i' j k _ hk => hb i' j k hk) (by rw [List.length_set]; exact hyl) (fun j rr z hrr hzz => ?_) (fun j k hk => ?_) (fun j j' k hk hk' => ?_)
  · by_cases e : j = j0
    · subst e
      rw [hr, List.getElem?_set, if_pos rfl, if_pos (by rw [R.rwn]; exact hj)] at hrr
      rw [List.getElem?_set, if_pos rfl, if_pos (by rw [hyl]; exact hj)] at hzz
      injection hrr with hrr
      injection hzz with hzz
      subst hrr
      subst hzz
      refine (hV.moved hzl fun k hk _ => set_blocks w _ y k fun e => (hVo k hk).2.1 e.symm).weak fun k hk => ?_
      rw [if_pos rfl]
      exact hk
    · rw [hr, List.getElem?_set, if_neg fun e' => e e'.symm] at hrr
      rw [List.getElem?_set, if_neg fun e' => e e'.symm] at hzz
      refine ((h.row i x ys h1 h2 j rr z hrr hzz).moved hzl fun k hk _ => hb i j k hk).weak fun k hk => ?_
      rw [if_neg e]
      exact hk
  · split at hk
    · exact ⟨by rw [hz]; exact (hVo k hk).1, fun e => (hVo k hk).2.1 (by injection e with e; exact e.symm), fun i' j' _ => (hVo k hk).2.2 i' j'⟩
    · exact ⟨by rw [hz]; exact h.lt i j k hk, h.off i j k hk, fun i' j' hne hk' => hne (h.one i' j' i j k hk' hk).1⟩
  · split at hk
    · rename_i e
      split at hk'
      · rename_i e'
        exact e.trans e'.symm
      · exact absurd hk' ((hVo k hk).2.2 i j')
    · split at hk'
      · exact absurd hk ((hVo k hk').2.2 i j)
      · exact (h.one i j i j' k hk hk').2
/-- The first of them, in a row anew. -/
theorem OwnRc.first (h : OwnRc R B u v l c T) (q : Nat) (hq : q ≤ l.length) {v' : Value} (hown : w.ownsRow B R.t (R.n + R.r) v' q (((recs R l c).flatten).take (q * (R.n + R.r)))) (hv' : v'.ownBlock = none ∨ v'.ownBlock = some u.heap.size) (hs : u.heap.size ≤ w.heap.size) (hb : ∀ i j k, T i j k → w.heap[k]? = u.heap[k]?) :
    OwnRc R B w v' (l.take q) (c.take q) (fun i j k => i < q ∧ T i j k) := by
  have hfl : ∀ (L : List (List Value)) (q : Nat), (∀ y ∈ L, y.length = R.n + R.r) → q ≤ L.length → L.flatten.take (q * (R.n + R.r)) = (L.take q).flatten := by
    intro L
    induction L with
    | nil => intro q _ h; simp at h; subst h; simp
    | cons z L ih =>
      intro q hy hq
      cases q with
      | zero => simp
      | succ q =>
        have hz := hy z (by simp)
        rw [List.flatten_cons, List.take_succ_cons, List.flatten_cons, ← ih q (fun y h => hy y (by simp [h])) (by simpa using hq), List.take_append, hz, Nat.succ_mul]
        rw [List.take_of_length_le (by omega), Nat.add_sub_cancel]
  have hoff : ∀ k, k < u.heap.size → v'.ownBlock ≠ some k := fun k hk => by
    rcases hv' with e | e
    · rw [e]; simp
    · rw [e]; intro e'; injection e' with e'; omega
  refine ⟨by simp [h.len], ?_, fun i j k hk => hoff k (h.lt i j k hk.2), fun i j k hk => Nat.lt_of_lt_of_le (h.lt i j k hk.2) hs, fun i j i' j' k hk hk' => h.one i j i' j' k hk.2 hk'.2, fun i ys hy => ?_, fun i x ys h1 h2 j rr y h3 h4 => ?_⟩
  · rw [hfl _ q h.wide (by rw [recs_len h.len]; exact hq)] at hown
    rw [List.length_take, Nat.min_eq_left hq]
    unfold recs at hown ⊢
    rwa [List.take_zipWith] at hown
  · rw [List.getElem?_take] at hy
    split at hy
    · exact h.wid i ys hy
    · simp at hy
  · rw [List.getElem?_take] at h1 h2
    split at h1
    · rename_i hi
      rw [if_pos hi] at h2
      exact ((h.row i x ys h1 h2 j rr y h3 h4).moved hs fun k hk _ => hb i j k hk).weak fun k hk => ⟨hi, hk⟩
    · simp at h1
end Pg
end Go.Proofs.Ytffkkhaiedhaiaa

/- A machine of one's own, in its block: a part of it put anew. -/
namespace Go.Proofs.Ytffkkhaiedhaiaa
namespace Pg
open Go.ChangeShapes Go.WideShapes Go.ChangeAt Go.RowKit St

variable {B M : Nat} {u w : World} {vh vf vs : Value} {m : Mc} {ch cf : List (List Value)} {Th Tf : Nat → Nat → Nat → Prop}
/-- Other frames: in blocks of the old ones, or new ones. -/
theorem MOwn.withF (h : MOwn B u vh vf vs m ch cf Th Tf) {vf' : Value} {fr : List Fr} {cf' : List (List Value)} {Tf' : Nat → Nat → Nat → Prop} (hB : B ≤ u.heap.size) (hz : u.heap.size ≤ w.heap.size) (hf : OwnRc recF B w vf' fr cf' Tf') (hb : ∀ k, Blk vh Th k ∨ vs.ownBlock = some k → w.heap[k]? = u.heap[k]?) (hn : ∀ k, Blk vf' Tf' k → Blk vf Tf k ∨ u.heap.size ≤ k) :
    MOwn B w vh vf' vs { m with frames := fr } ch cf' Th Tf' := by
  refine ⟨h.h.moved hz (fun g hg => hb g (.inl (.inl hg))) (fun i j k hk => hb k (.inl (.inr ⟨i, j, hk⟩))), hf, own_moved h.s fun g hg => hb g (.inr hg), fun k hk hk' => ?_, h.hs, fun k hk e => ?_, fun k hk => ?_⟩
  · rcases hn k hk' with hk' | hk'
    · exact h.hf k hk hk'
    · have := h.lt k (.inl hk); omega
  · rcases hn k hk with hk | hk
    · exact h.fs k hk e
    · have := h.lt k (.inr (.inr e)); omega
  · rcases hk with hk | hk | hk
    · exact h.low k (.inl hk)
    · rcases hn k hk with hk | hk
      · exact h.low k (.inr (.inl hk))
      · omega
    · exact h.low k (.inr (.inr hk))
/-- Another heap. -/
theorem MOwn.withH (h : MOwn B u vh vf vs m ch cf Th Tf) {vh' : Value} {hp : List Ob} {ch' : List (List Value)} {Th' : Nat → Nat → Nat → Prop} (hB : B ≤ u.heap.size) (hz : u.heap.size ≤ w.heap.size) (hh : OwnRc recO B w vh' hp ch' Th') (hb : ∀ k, Blk vf Tf k ∨ vs.ownBlock = some k → w.heap[k]? = u.heap[k]?) (hn : ∀ k, Blk vh' Th' k → Blk vh Th k ∨ u.heap.size ≤ k) :
    MOwn B w vh' vf vs { m with heap := hp } ch' cf Th' Tf := by
  refine ⟨hh, h.f.moved hz (fun g hg => hb g (.inl (.inl hg))) (fun i j k hk => hb k (.inl (.inr ⟨i, j, hk⟩))), own_moved h.s fun g hg => hb g (.inr hg), fun k hk hk' => ?_, fun k hk e => ?_, h.fs, fun k hk => ?_⟩
  · rcases hn k hk with hk | hk
    · exact h.hf k hk hk'
    · have := h.lt k (.inr (.inl hk')); omega
  · rcases hn k hk with hk | hk
    · exact h.hs k hk e
    · have := h.lt k (.inr (.inr e)); omega
  · rcases hk with hk | hk | hk
    · rcases hn k hk with hk | hk
      · exact h.low k (.inl hk)
      · omega
    · exact h.low k (.inr (.inl hk))
    · exact h.low k (.inr (.inr hk))
/-- More said. -/
theorem MOwn.withS (h : MOwn B u vh vf vs m ch cf Th Tf) {vs' : Value} {sd : List Int} (hB : B ≤ u.heap.size) (hz : u.heap.size ≤ w.heap.size) (hs : w.ownsRow B 2 1 vs' sd.length (nums sd)) (hb : ∀ k, Blk vh Th k ∨ Blk vf Tf k → w.heap[k]? = u.heap[k]?) (hn : ∀ k, vs'.ownBlock = some k → vs.ownBlock = some k ∨ u.heap.size ≤ k) :
    MOwn B w vh vf vs' { m with said := sd } ch cf Th Tf := by
  refine ⟨h.h.moved hz (fun g hg => hb g (.inl (.inl hg))) (fun i j k hk => hb k (.inl (.inr ⟨i, j, hk⟩))), h.f.moved hz (fun g hg => hb g (.inr (.inl hg))) (fun i j k hk => hb k (.inr (.inr ⟨i, j, hk⟩))), hs, h.hf, fun k hk e => ?_, fun k hk e => ?_, fun k hk => ?_⟩
  · rcases hn k e with e | e
    · exact h.hs k hk e
    · have := h.lt k (.inl hk); omega
  · rcases hn k e with e | e
    · exact h.fs k hk e
    · have := h.lt k (.inr (.inl hk)); omega
  · rcases hk with hk | hk | hk
    · exact h.low k (.inl hk)
    · exact h.low k (.inr (.inl hk))
    · rcases hn k hk with hk | hk
      · exact h.low k (.inr (.inr hk))
      · omega
/-- How it ended and with what lies in the machine's own block alone. -/
theorem MOwn.ends (h : MOwn B w vh vf vs m ch cf Th Tf) (e c : Int) : MOwn B w vh vf vs { m with fin := e, code := c } ch cf Th Tf := ⟨h.h, h.f, h.s, h.hf, h.hs, h.fs, h.low⟩
/-- The machine in its block M. -/
def MSt (B M : Nat) (w : World) (m : Mc) : Prop := ∃ vh vf vs ch cf Th Tf, Cells w M [vh, vf, vs, .int .i64 m.fin, .int .i64 m.code] ∧ B ≤ M ∧ MOwn B w vh vf vs m ch cf Th Tf ∧ ∀ k, Blk vh Th k ∨ Blk vf Tf k ∨ vs.ownBlock = some k → k ≠ M
theorem MSt.on {m : Mc} (h : MSt B M u m) (hb : Below u.heap.size u w) : MSt B M w m := by
  obtain ⟨vh, vf, vs, ch, cf, Th, Tf, h1, h2, h3, h4⟩ := h
  exact ⟨vh, vf, vs, ch, cf, Th, Tf, h1.on hb, h2, h3.on hb, h4⟩
end Pg
end Go.Proofs.Ytffkkhaiedhaiaa

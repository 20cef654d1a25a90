/- What the desk makes of a step is its effect: of plain data alone. -/
import Derived.Test.YtfdlljdljefkfaaGreatDoorJDk2
import Derived.Test.YtfdlljdljefkfaaGreatDoorJGot0
import Derived.Laws.AppendOwnNone
import Derived.Test.YtfdlljdljefkfaaGreatDoorJDk5
namespace Go.Proofs.YtfdlljdljefkfaaGreatDoor
namespace Pg
open Go.ChangeShapes Go.WideShapes Go.ChangeAt Go.RowKit St

theorem fitL_snoc (p : Prg) (x y : Int) : ∀ {a b : List Int}, a.length = b.length → fitL p (a ++ [x]) (b ++ [y]) = (fitL p a b && fitB p x y) := by
  intro a
  induction a with
  | nil =>
    intro b h
    cases b with
    | nil => show fitL p [x] [y] = _; rw [fitL_one, fitL_nil]; rfl
    | cons _ _ => simp at h
  | cons u a ih =>
    intro b h
    cases b with
    | nil => simp at h
    | cons v b => rw [List.cons_append, List.cons_append, fitL_cons, fitL_cons, ih (by simpa using h), Bool.and_assoc]
theorem tk_nil (p : Prg) (st : List Int) : tkF p [] st = some st := by
  unfold tkF
  rw [if_pos ⟨Nat.zero_le _, by simp [fitL_nil]⟩]
  simp
theorem tk_snoc (p : Prg) (ws st : List Int) (x : Int) : tkF p (ws ++ [x]) st = if st.length < 1 then none else if fitB p (topF st 1) x then tkF p ws (st.take (st.length - 1)) else none := by
  by_cases h0 : st.length < 1
  · rw [if_pos h0]
    unfold tkF
    rw [if_neg (fun h => by have := h.1; simp at this; omega)]
  · rw [if_neg h0]
    obtain ⟨s, y, rfl⟩ : ∃ s y, st = s ++ [y] := ⟨st.dropLast, st.getLast (by intro h; subst h; simp at h0), (List.dropLast_concat_getLast _).symm⟩
    have e1 : topF (s ++ [y]) 1 = y := by unfold topF; simp
    have e2 : (s ++ [y]).take ((s ++ [y]).length - 1) = s := by simp
    rw [e1, e2]
    unfold tkF
    simp only [List.length_append, List.length_cons, List.length_nil, Nat.zero_add, Nat.add_sub_add_right, Nat.add_le_add_iff_right]
    by_cases h1 : ws.length ≤ s.length
    · have e3 : (s ++ [y]).drop (s.length - ws.length) = s.drop (s.length - ws.length) ++ [y] := List.drop_append_of_le_length (by omega)
      have e4 : (s ++ [y]).take (s.length - ws.length) = s.take (s.length - ws.length) := List.take_append_of_le_length (by omega)
      rw [e3, e4, fitL_snoc p y x (by simp; omega)]
      cases fitB p y x <;> cases hf : fitL p (s.drop (s.length - ws.length)) ws <;> simp [h1]
    · simp [h1]
theorem fit1_bad {p : Prg} {d : Dsk} (h : d.bad = true) (x : Int) : (d.fit1 p x).bad = true := by
  unfold Dsk.fit1 Dsk.when Dsk.take Dsk.refuse
  split <;> split <;> first | rfl | exact h
theorem fold_bad {p : Prg} : ∀ (l : List Int) {d : Dsk}, d.bad = true → (l.foldl (Dsk.fit1 p) d).bad = true := by
  intro l
  induction l with
  | nil => intro d h; exact h
  | cons x l ih => intro d h; exact ih (fit1_bad h x)
theorem put_bad {d : Dsk} (h : d.bad = true) (ks : List Int) : (d.put ks).bad = true := by simp [Dsk.put, h]
theorem fold_tk {p : Prg} (lo : List Int) : ∀ (rs st : List Int), (match tkF p rs.reverse st with | none => (rs.foldl (Dsk.fit1 p) ⟨false, st, lo⟩).bad = true | some r => rs.foldl (Dsk.fit1 p) ⟨false, st, lo⟩ = ⟨false, r, lo⟩) := by
  intro rs
  induction rs with
  | nil => intro st; rw [List.reverse_nil, tk_nil]; rfl
  | cons x rs ih =>
    intro st
    rw [List.reverse_cons, tk_snoc, List.foldl_cons]
    by_cases h0 : st.length < 1
    · rw [if_pos h0]
      refine fold_bad rs ?_
      unfold Dsk.fit1 Dsk.when Dsk.take Dsk.refuse
      simp only [h0, if_true]
      split <;> rfl
    · rw [if_neg h0]
      have e1 : Dsk.top ⟨false, st, lo⟩ = topF st 1 := by unfold Dsk.top; rw [if_neg h0]
      have e2 : Dsk.take ⟨false, st, lo⟩ = ⟨false, st.take (st.length - 1), lo⟩ := by unfold Dsk.take; rw [if_neg h0]
      have e3 : Dsk.fit1 p ⟨false, st, lo⟩ x = Dsk.when ⟨false, st.take (st.length - 1), lo⟩ (fitB p (topF st 1) x) := by unfold Dsk.fit1; rw [e1, e2]
      rw [e3]
      cases fitB p (topF st 1) x with
      | false => exact fold_bad rs rfl
      | true => exact ih _
theorem fits_tk (p : Prg) (lo ws st : List Int) : (match tkF p ws st with | none => (Dsk.fits p ⟨false, st, lo⟩ ws).bad = true | some r => Dsk.fits p ⟨false, st, lo⟩ ws = ⟨false, r, lo⟩) := by
  have := fold_tk (p := p) lo ws.reverse st
  rw [List.reverse_reverse] at this
  exact this
theorem fits_bad {p : Prg} {d : Dsk} (h : d.bad = true) (ws : List Int) : (d.fits p ws).bad = true := fold_bad _ h
/-- A desk that is as a state says, or is refused. -/
def Is (d : Dsk) : Option Sta → Prop
  | none => d.bad = true
  | some t => d = ⟨false, t.1, t.2⟩
theorem is_put (lo st ks : List Int) : Is (Dsk.put ⟨false, st, lo⟩ ks) (putF lo st ks) := by
  unfold putF Dsk.put
  by_cases h : (st ++ ks).length ≤ 8
  · rw [if_pos h]
    have : ¬ 8 < (st ++ ks).length := by omega
    show _ = _
    rw [decide_eq_false this]
    rfl
  · rw [if_neg h]
    have : 8 < (st ++ ks).length := by omega
    show _ = _
    rw [decide_eq_true this]
    rfl
theorem is_tp (p : Prg) (s : Sta) (ws ks : List Int) : Is ((Dsk.fits p ⟨false, s.1, s.2⟩ ws).put ks) (tpF p s ws ks) := by
  have h := fits_tk p s.2 ws s.1
  unfold tpF
  cases hr : tkF p ws s.1 with
  | none => rw [hr] at h; exact put_bad h ks
  | some r => rw [hr] at h; simp only [] at h; rw [h]; exact is_put s.2 r ks
theorem is_tk (p : Prg) (s : Sta) (h8 : s.1.length ≤ 8) (ws : List Int) : Is (Dsk.fits p ⟨false, s.1, s.2⟩ ws) (tpF p s ws []) := by
  have h := fits_tk p s.2 ws s.1
  unfold tpF
  cases hr : tkF p ws s.1 with
  | none => rw [hr] at h; exact h
  | some r =>
    rw [hr] at h
    simp only [] at h
    obtain ⟨_, _, rfl⟩ := tkF_some hr
    rw [h]
    show Is _ (putF _ _ [])
    unfold putF
    rw [if_pos (by simp; omega), List.append_nil]
    rfl
theorem fieldV_bd {p : Prg} (hok : okP p = true) (c f : Int) : -3 ≤ fieldV p c f := by
  unfold fieldV
  cases h : fldF p c f with
  | none => simp
  | some t => have := kind_bd (ty_kind (fld_ty hok h)); simp; omega
def Dsk.sto (d : Dsk) (a : Int) : Dsk := ⟨d.take.bad, d.take.st, d.take.lo.set a.toNat d.top⟩
def Dsk.swap (d : Dsk) : Dsk := d.take.take.put [d.top, d.take.top]
def callD (p : Prg) (c : Int) (name : Int) : Option Meth := if c < (p.length : Int) then callF p c name else none
def Dsk.call (p : Prg) (d : Dsk) (c name : Int) : Dsk := match callD p c name with
  | none => (d.refuse.fits p [c]).put [0]
  | some m => (d.fits p (c :: m.args)).put [m.gives]
/-- What a step makes of the desk. -/
def doD (p : Prg) (gives : Int) (i : Tx.Ins) (d : Dsk) : Dsk :=
  if i.1 = 1 then d.put [-1]
  else if i.1 = 2 then d.load i.2.1
  else if i.1 = 3 then d.sto i.2.1
  else if i.1 = 4 ∨ i.1 = 5 ∨ i.1 = 6 ∨ i.1 = 7 then (d.fits p [-1, -1]).put [-1]
  else if i.1 = 8 then d.take.put [d.top, d.top]
  else if i.1 = 9 then d.take
  else if i.1 = 10 then d.swap
  else if i.1 = 11 then d
  else if i.1 = 12 ∨ i.1 = 19 then d.fits p [-1]
  else if i.1 = 13 then d.put [-2]
  else if i.1 = 14 then (d.when (decide (i.2.1 < (p.length : Int)))).put [classV p i.2.1]
  else if i.1 = 15 then ((d.fits p [i.2.1]).when (fldF p i.2.1 i.2.2).isSome).put [fieldV p i.2.1 i.2.2]
  else if i.1 = 16 then (d.when (fldF p i.2.1 i.2.2).isSome).fits p [i.2.1, fieldV p i.2.1 i.2.2]
  else if i.1 = 17 then d.call p i.2.1 i.2.2
  else if i.1 = 18 then d.obj.put [-1]
  else if i.1 = 20 then d.fits p [gives]
  else d.refuse
theorem take_some {st lo : List Int} (h : ¬ st.length < 1) : Dsk.take ⟨false, st, lo⟩ = ⟨false, st.take (st.length - 1), lo⟩ ∧ Dsk.top ⟨false, st, lo⟩ = topF st 1 := by
  unfold Dsk.take Dsk.top; rw [if_neg h, if_neg h]; exact ⟨rfl, rfl⟩
theorem take_none {st lo : List Int} (h : st.length < 1) : (Dsk.take ⟨false, st, lo⟩).bad = true := by
  unfold Dsk.take; rw [if_pos h]; rfl
theorem take_bad {d : Dsk} (h : d.bad = true) : d.take.bad = true := by
  unfold Dsk.take Dsk.refuse; split <;> first | rfl | exact h
theorem when_bad {d : Dsk} (h : d.bad = true) (b : Bool) : (d.when b).bad = true := by unfold Dsk.when Dsk.refuse; split <;> first | exact h | rfl
theorem putF_few (lo : List Int) {st ks : List Int} (h : (st ++ ks).length ≤ 8) : putF lo st ks = some (st ++ ks, lo) := by unfold putF; rw [if_pos h]
theorem do_is {p : Prg} (gives : Int) (i : Tx.Ins) (s : Sta) (h8 : s.1.length ≤ 8) : Is (doD p gives i ⟨false, s.1, s.2⟩) (effF p gives i s) := by
  unfold doD effF
  by_cases hc : i.1 = 1
  · rw [if_pos hc, if_pos hc]; exact is_put _ _ _
  rw [if_neg hc, if_neg hc]
  clear hc
  by_cases hc : i.1 = 2
  · rw [if_pos hc, if_pos hc]
    unfold Dsk.load
    by_cases h : s.2.getD i.2.1.toNat 0 = -3
    · rw [if_pos h]
      refine put_bad ?_ _
      rw [decide_eq_true h]; rfl
    · rw [if_neg h, decide_eq_false h]
      exact is_put _ _ _
  rw [if_neg hc, if_neg hc]
  clear hc
  by_cases hc : i.1 = 3
  · rw [if_pos hc, if_pos hc]
    by_cases h : s.1.length < 1
    · rw [if_pos h]; exact take_none h
    · rw [if_neg h]
      unfold Dsk.sto
      rw [(take_some h).1, (take_some h).2]
      rfl
  rw [if_neg hc, if_neg hc]
  clear hc
  by_cases hc : i.1 = 4 ∨ i.1 = 5 ∨ i.1 = 6 ∨ i.1 = 7
  · rw [if_pos hc, if_pos hc]; exact is_tp p s _ _
  rw [if_neg hc, if_neg hc]
  clear hc
  by_cases hc : i.1 = 8
  · rw [if_pos hc, if_pos hc]
    by_cases h : s.1.length < 1
    · rw [if_pos h]; exact put_bad (take_none h) _
    · rw [if_neg h, (take_some h).1, (take_some h).2]
      have e : s.1.take (s.1.length - 1) ++ [topF s.1 1, topF s.1 1] = s.1 ++ [topF s.1 1] := by
        obtain ⟨r, y, hr⟩ : ∃ r y, s.1 = r ++ [y] := ⟨s.1.dropLast, s.1.getLast (by intro h'; rw [h'] at h; simp at h), (List.dropLast_concat_getLast _).symm⟩
        rw [hr]
        have e1 : topF (r ++ [y]) 1 = y := by unfold topF; simp
        rw [e1]
        simp
      have h2 := is_put s.2 (s.1.take (s.1.length - 1)) [topF s.1 1, topF s.1 1]
      have e3 : putF s.2 (s.1.take (s.1.length - 1)) [topF s.1 1, topF s.1 1] = putF s.2 s.1 [topF s.1 1] := by unfold putF; rw [e]
      rw [e3] at h2
      exact h2
  rw [if_neg hc, if_neg hc]
  clear hc
  by_cases hc : i.1 = 9
  · rw [if_pos hc, if_pos hc]
    by_cases h : s.1.length < 1
    · rw [if_pos h]; exact take_none h
    · rw [if_neg h, (take_some h).1]; rfl
  rw [if_neg hc, if_neg hc]
  clear hc
  by_cases hc : i.1 = 10
  · rw [if_pos hc, if_pos hc]
    unfold Dsk.swap
    by_cases h : s.1.length < 2
    · rw [if_pos h]
      refine put_bad ?_ _
      by_cases h1 : s.1.length < 1
      · exact take_bad (take_none h1)
      · rw [(take_some h1).1]
        exact take_none (by simp; omega)
    · rw [if_neg h]
      have h1 : ¬ s.1.length < 1 := by omega
      rw [(take_some h1).1, (take_some h1).2]
      have h2 : ¬ (s.1.take (s.1.length - 1)).length < 1 := by simp; omega
      rw [(take_some h2).1, (take_some h2).2]
      have e1 : (s.1.take (s.1.length - 1)).take ((s.1.take (s.1.length - 1)).length - 1) = s.1.take (s.1.length - 2) := by
        rw [List.take_take]
        congr 1
        simp; omega
      have e2 : topF (s.1.take (s.1.length - 1)) 1 = topF s.1 2 := by
        unfold topF
        have e5 : (s.1.take (s.1.length - 1)).length - 1 = s.1.length - 2 := by simp; omega
        rw [e5, List.getD_eq_getElem?_getD, List.getD_eq_getElem?_getD, List.getElem?_take, if_pos (by omega)]
      rw [e1, e2]
      have h3 := is_put s.2 (s.1.take (s.1.length - 2)) [topF s.1 1, topF s.1 2]
      rw [putF_few _ (by simp; omega)] at h3
      exact h3
  rw [if_neg hc, if_neg hc]
  clear hc
  by_cases hc : i.1 = 11
  · rw [if_pos hc, if_pos hc]; rfl
  rw [if_neg hc, if_neg hc]
  clear hc
  by_cases hc : i.1 = 12 ∨ i.1 = 19
  · rw [if_pos hc, if_pos hc]; exact is_tk p s h8 _
  rw [if_neg hc, if_neg hc]
  clear hc
  by_cases hc : i.1 = 13
  · rw [if_pos hc, if_pos hc]; exact is_put _ _ _
  rw [if_neg hc, if_neg hc]
  clear hc
  by_cases hc : i.1 = 14
  · rw [if_pos hc, if_pos hc]
    unfold classV
    by_cases h : i.2.1 < (p.length : Int)
    · rw [if_pos h, if_pos h, decide_eq_true h]; exact is_put _ _ _
    · rw [if_neg h, if_neg h, decide_eq_false h]; exact put_bad rfl _
  rw [if_neg hc, if_neg hc]
  clear hc
  by_cases hc : i.1 = 15
  · rw [if_pos hc, if_pos hc]
    unfold fieldV
    cases fldF p i.2.1 i.2.2 with
    | none => exact put_bad rfl _
    | some t => exact is_tp p s _ _
  rw [if_neg hc, if_neg hc]
  clear hc
  by_cases hc : i.1 = 16
  · rw [if_pos hc, if_pos hc]
    unfold fieldV
    cases fldF p i.2.1 i.2.2 with
    | none => exact fits_bad rfl _
    | some t => exact is_tk p s h8 _
  rw [if_neg hc, if_neg hc]
  clear hc
  by_cases hc : i.1 = 17
  · rw [if_pos hc, if_pos hc]
    unfold Dsk.call callD
    by_cases h : i.2.1 < (p.length : Int)
    · rw [if_pos h, if_pos h]
      cases callF p i.2.1 i.2.2 with
      | none => exact put_bad (fits_bad rfl _) _
      | some m => exact is_tp p s _ _
    · rw [if_neg h, if_neg h]
      exact put_bad (fits_bad rfl _) _
  rw [if_neg hc, if_neg hc]
  clear hc
  by_cases hc : i.1 = 18
  · rw [if_pos hc, if_pos hc]
    unfold Dsk.obj
    by_cases h : s.1.length < 1
    · rw [if_pos (.inl h)]; exact put_bad (when_bad (take_none h) _) _
    · rw [(take_some h).1, (take_some h).2]
      by_cases h2 : topF s.1 1 = -1 ∨ topF s.1 1 = -3
      · rw [if_pos (.inr h2)]
        have e : (decide (topF s.1 1 = -1) || decide (topF s.1 1 = -3)) = true := by simpa using h2
        rw [e]
        exact put_bad rfl _
      · rw [if_neg (fun h3 => h3.elim h h2)]
        have e : (decide (topF s.1 1 = -1) || decide (topF s.1 1 = -3)) = false := by simpa using h2
        rw [e]
        exact is_put _ _ _
  rw [if_neg hc, if_neg hc]
  clear hc
  by_cases hc : i.1 = 20
  · rw [if_pos hc, if_pos hc]; exact is_tk p s h8 _
  rw [if_neg hc, if_neg hc]
  exact rfl
end Pg
end Go.Proofs.YtfdlljdljefkfaaGreatDoor

/- Appends onto a list of numbers of one's own, as a law of the walk; what they keep. -/
namespace Go.Proofs.YtfdlljdljefkfaaGreatDoor
namespace Pg
open Go.ChangeShapes Go.WideShapes Go.ChangeAt Go.RowKit St

/-- A block of its own, of whatever type. -/
def BoxT (W : World) (b : Nat) (t : TypeId) (vs : Array Value) : Prop := W.heap[b]? = some (.cells vs t (0, 0))
theorem BoxT.lt {W : World} {b : Nat} {t : TypeId} {vs : Array Value} (h : BoxT W b t vs) : b < W.heap.size := (Array.getElem?_eq_some_iff.1 h).1
theorem BoxT.new (W : World) (t : TypeId) (vs : Array Value) : BoxT (W.alloc (.cells vs t)) W.heap.size t vs := heap_alloc_new W _
theorem BoxT.on {W W' : World} {b : Nat} {t : TypeId} {vs : Array Value} (h : BoxT W b t vs) (hb : Below W.heap.size W W') : BoxT W' b t vs := (hb.block b h.lt).trans h
theorem BoxT.kept {W W' : World} {row : Option Nat} {b : Nat} {t : TypeId} {vs : Array Value} (h : BoxT W b t vs) (hg : W.grownBy W' row) (hne : some b ≠ row) : BoxT W' b t vs := (hg.block b h.lt hne).trans h
theorem BoxT.not_row {W : World} {b : Nat} {t e : TypeId} {vs : Array Value} (h : BoxT W b t vs) (hte : t ≠ e) {base size k : Nat} {v : Value} {xs : List Value} (hr : W.ownsRow base e size v k xs) : some b ≠ v.ownBlock := by
  intro hb
  obtain ⟨_, ⟨rfl, _⟩ | ⟨g, cap, cur, rfl, _, hg, _⟩⟩ := hr
  · simp [Value.ownBlock] at hb
  · simp [Value.ownBlock] at hb
    subst hb
    have h' : W.heap[b]? = some (.cells vs t (0, 0)) := h
    rw [h'] at hg
    injection hg with hg
    injection hg with _ hg
    exact hte hg
theorem BoxT.cell {W : World} {b : Nat} {t : TypeId} {vs : Array Value} (h : BoxT W b t vs) {i : Nat} {x : Value} (hx : vs[i]? = some x) : W.cell? ⟨b, i, none⟩ = some x := by
  have h' : W.heap[b]? = some (.cells vs t (0, 0)) := h
  simp [World.cell?, h', hx]
/-- What an append onto a list of one's own keeps. -/
structure Kept (B : Nat) (W W' : World) : Prop where
  below : Below B W W'
  box : ∀ b t vs, t ≠ 2 → BoxT W b t vs → BoxT W' b t vs
theorem Kept.of {B : Nat} {W W' : World} (h : Below W.heap.size W W') (hB : B ≤ W.heap.size) : Kept B W W' := ⟨h.mono hB, fun _ _ _ _ h1 => h1.on h⟩
theorem Kept.refl (B : Nat) (W : World) : Kept B W W := ⟨Below.refl _ _, fun _ _ _ _ h => h⟩
theorem Kept.trans {B : Nat} {W W' W'' : World} (h : Kept B W W') (h' : Kept B W' W'') : Kept B W W'' := ⟨h.below.trans h'.below, fun b t vs ht hb => h'.box b t vs ht (h.box b t vs ht hb)⟩
theorem Kept.alloc {B : Nat} {W W' : World} (h : Kept B W W') (hB : B ≤ W.heap.size) (o : Obj) : Kept B W (W'.alloc o) := h.trans (Kept.of ((Below.refl _ _).alloc (Nat.le_refl _) _) (Nat.le_trans hB h.below.size))
theorem kept_grown {B : Nat} {W W' : World} {v : Value} {n : Nat} {xs : List Value} (hB : B ≤ W.heap.size) (hr : W.ownsRow B 2 1 v n xs) (hg : W.grownBy W' v.ownBlock) : Kept B W W' :=
  ⟨(Below.refl _ _).grown hg hB (fun k hk => (hr.lt k hk).1), fun _ _ _ ht hb => hb.kept hg (hb.not_row ht hr)⟩
theorem nums_app (l r : List Int) : nums (l ++ r) = nums l ++ nums r := by simp [nums]
theorem nums_length (l : List Int) : (nums l).length = l.length := by simp [nums]
theorem SI.none_nil {B : Nat} {w : World} {n cap : Nat} {l : List Int} (h : SI true B w (.slice none n cap) l) (hn : n = l.length) : l = [] ∧ n = 0 ∧ cap = 0 := by
  have hl : l = [] := by
    cases l with
    | nil => rfl
    | cons x l =>
      obtain ⟨b, o, he, _⟩ := SI.rows h (by simp)
      cases he
  subst hl
  subst hn
  refine ⟨rfl, rfl, ?_⟩
  rcases h with h | h
  all_goals simp_all
theorem grow_lit1 (w : World) (x : Int) : Grow w.heap.size (w.alloc (.cells #[.int .i64 x] 2)) (.slice (some ⟨w.heap.size, 0, none⟩) 1 1) [x] :=
  ⟨⟨by simp [nums], .inr ⟨w.heap.size, 1, _, rfl, Nat.le_refl _, heap_alloc_new w _, Nat.le_refl _, by decide, by simp, by simp [nums]⟩⟩, by simp⟩
theorem grow_lit2 (w : World) (x y : Int) : Grow w.heap.size (w.alloc (.cells #[.int .i64 x, .int .i64 y] 2)) (.slice (some ⟨w.heap.size, 0, none⟩) 2 2) [x, y] :=
  ⟨⟨by simp [nums], .inr ⟨w.heap.size, 2, _, rfl, Nat.le_refl _, heap_alloc_new w _, Nat.le_refl _, by decide, by simp, by simp [nums]⟩⟩, by simp⟩
theorem wpList_grow {w : World} {ops : Array Oper} {rest : List Oper} {o : Oper} {a : Act} {Q : Exit → Act → World → Prop} (hgd : o.guard = none) (s x : Operand)
    (ho : o.op = .call { callee := .builtin .append, args := #[s, x], argTypes := #[27, 27] })
    (B : Nat) (v : Value) (l : List Int) (hs : a.eval s = v) (hg : Grow B w v l) (hB : B ≤ w.heap.size)
    (z : Option Addr) (c B' : Nat) (r : List Int) (hx : a.eval x = .slice z r.length c) (hr : SI true B' w (.slice z r.length c) r) (hlen : l.length + r.length ≤ 1000)
    (h : ∀ v' w', Grow B w' v' (l ++ r) → Kept B w w' → wpList Tryz.prog ops Q rest (a.put o.dst v') w') : wpList Tryz.prog ops Q (o :: rest) a w := by
  obtain ⟨i0, hif, hz0, hz1, hz2⟩ := info_parts infoN
  cases z with
  | none =>
    obtain ⟨rfl, hn, rfl⟩ := SI.none_nil hr rfl
    refine wpList_append_own_none hgd s x 27 ho B 2 i0 1 Tryz.underlying27 hif v l.length (nums l) hs hg.1 hx ?_
    exact h v w (by rw [List.append_nil]; exact hg) (Kept.refl _ _)
  | some ad =>
    refine wpList_append_own w hgd s x 27 ho B 2 i0 (.int .i64 0) 1 8 Tryz.underlying27 hif hz0 hz1 hz2 rfl (by decide) v l.length (nums l) hs hg.1 ad r.length c (nums r) hx (by rw [nums_length, Nat.mul_one]) (SI.nums hr) (nums_one r) (by unfold maxLen; omega) (by omega) hB ?_
    intro v' w' hown hgrow hnil
    refine h v' w' ⟨?_, ?_⟩ (kept_grown hB hg.1 hgrow)
    · rw [List.length_append, nums_app]; exact hown
    · intro e; exact hg.2 (hnil.1 e).1

theorem growOn {B : Nat} {u v : World} {x : Value} {l : List Int} (h : Grow B u x l) (hb : Below u.heap.size u v) : Grow B v x l := ⟨ownOn h.1 hb, h.2⟩
theorem growBase {B B' : Nat} {w : World} {v : Value} {l : List Int} (h : Grow B w v l) (hB : B' ≤ B) : Grow B' w v l := ⟨ownBase h.1 hB, h.2⟩
theorem growForm {B : Nat} {w : World} {x : Value} {l : List Int} (h : Grow B w x l) : ∃ g cap, x = .slice (some ⟨g, 0, none⟩) l.length cap := by
  obtain ⟨g, c, hv, _⟩ := h.gint
  exact ⟨g, c, hv⟩
theorem allocBelow (u : World) (o : Obj) : Below u.heap.size u (u.alloc o) := (Below.refl _ _).alloc (Nat.le_refl _) _
end Pg
end Go.Proofs.YtfdlljdljefkfaaGreatDoor

/- Contracts of the desk's doing of a step (Dk6). -/
namespace Go.Proofs.YtfdlljdljefkfaaGreatDoor
namespace Pg
open Go.ChangeShapes Go.WideShapes Go.ChangeAt Go.RowKit St

set_option maxRecDepth 100000 in
set_option maxHeartbeats 4000000 in
theorem do_1 (B : Nat) (p : Prg) (hok' : okP p = true) (hsp : SmallP p) (u W0 : World) (fs : List Nat) (w : World) (k : Nat) (pa : Option Addr) (pc : Nat) (hp : SK front B u (.slice pa p.length pc) p) (d : Dsk) (hok : d.ok p) (h : DeskAt u W0 fs w k (.slice pa p.length pc) d) (a b gives : Int) :
    Calls Tryz.prog 64 #[.pointer (some ⟨k, 0, none⟩), .agg #[.int .i64 1, .int .i64 a, .int .i64 b], .int .i64 gives] w fun e w' => (∃ v, e = .returned v) ∧ DeskAt u W0 fs w' k (.slice pa p.length pc) (doD p gives (1, a, b) d) := by
  have HP : Hid (SK front B u (.slice pa p.length pc) p) := hp
  have HSP : Hid (SmallP p) := hsp
  have hp0 : 0 < p.length := (okP_len hok').1
  have h6 : p.length ≤ 6 := (okP_len hok').2
  have HSU : Hid (SupOk p p.length) := (ok_sup hok').sup
  have HH : Hid (DeskAt u W0 fs w k (.slice pa p.length pc) d) := h
  have HOK : Hid (d.ok p) := hok
  obtain ⟨W, hW⟩ : ∃ W, W = w.alloc (.cells #[.int .i64 1, .int .i64 a, .int .i64 b] 39) := ⟨_, rfl⟩
  have hwW : Below w.heap.size w W := by rw [hW]; exact (Below.refl _ _).alloc (Nat.le_refl _) _
  have HF : Hid (DeskAt u W (w.heap.size :: fs) W k (.slice pa p.length pc) d) := by rw [hW]; exact h.fresh _
  have CI : Hid (Cells W w.heap.size [.int .i64 1, .int .i64 a, .int .i64 b]) := by rw [hW]; exact Cells.new w _ rfl _ _
  have HZ : Hid (W.heap.size = w.heap.size + 1) := by rw [hW]; show _ = _; simp
  have HDO : Hid (doD p gives (1, a, b) d = d.put [-1]) := by show _ = _; simp [doD]
  have HWB : Hid (Below w.heap.size w W) := hwW
  clear h hp hsp hok hok' hwW
  go_enter Tryz.func64, Tryz.ntmps64
  go_wp2_with fail
  rw [← hW]
  clear hW
  refine (put_at u W (w.heap.size :: fs) _ k _ d (HF.out.on ((Below.refl _ _).alloc (Nat.le_refl _) _)) HOK.out.2.2 _ _ [-1] (by decide) (irow_newAt W _ [-1] HZ.out.symm)).mono ?_
  rintro e w1 ⟨⟨v, rfl⟩, hd⟩
  have HE : Hid (DeskAt u W0 fs w1 k (.slice pa p.length pc) (doD p gives (1, a, b) d)) := by
    show DeskAt _ _ _ _ _ _ _
    rw [HDO.out]
    exact HH.out.back (gs := [w.heap.size]) HWB.out hd
  clear hd
  go_wp2
  go_end0
  exact ⟨⟨_, rfl⟩, HE.out⟩

set_option maxRecDepth 100000 in
set_option maxHeartbeats 4000000 in
theorem do_13 (B : Nat) (p : Prg) (hok' : okP p = true) (hsp : SmallP p) (u W0 : World) (fs : List Nat) (w : World) (k : Nat) (pa : Option Addr) (pc : Nat) (hp : SK front B u (.slice pa p.length pc) p) (d : Dsk) (hok : d.ok p) (h : DeskAt u W0 fs w k (.slice pa p.length pc) d) (a b gives : Int) :
    Calls Tryz.prog 64 #[.pointer (some ⟨k, 0, none⟩), .agg #[.int .i64 13, .int .i64 a, .int .i64 b], .int .i64 gives] w fun e w' => (∃ v, e = .returned v) ∧ DeskAt u W0 fs w' k (.slice pa p.length pc) (doD p gives (13, a, b) d) := by
  have HP : Hid (SK front B u (.slice pa p.length pc) p) := hp
  have HSP : Hid (SmallP p) := hsp
  have hp0 : 0 < p.length := (okP_len hok').1
  have h6 : p.length ≤ 6 := (okP_len hok').2
  have HSU : Hid (SupOk p p.length) := (ok_sup hok').sup
  have HH : Hid (DeskAt u W0 fs w k (.slice pa p.length pc) d) := h
  have HOK : Hid (d.ok p) := hok
  obtain ⟨W, hW⟩ : ∃ W, W = w.alloc (.cells #[.int .i64 13, .int .i64 a, .int .i64 b] 39) := ⟨_, rfl⟩
  have hwW : Below w.heap.size w W := by rw [hW]; exact (Below.refl _ _).alloc (Nat.le_refl _) _
  have HF : Hid (DeskAt u W (w.heap.size :: fs) W k (.slice pa p.length pc) d) := by rw [hW]; exact h.fresh _
  have CI : Hid (Cells W w.heap.size [.int .i64 13, .int .i64 a, .int .i64 b]) := by rw [hW]; exact Cells.new w _ rfl _ _
  have HZ : Hid (W.heap.size = w.heap.size + 1) := by rw [hW]; show _ = _; simp
  have HDO : Hid (doD p gives (13, a, b) d = d.put [-2]) := by show _ = _; simp [doD]
  have HWB : Hid (Below w.heap.size w W) := hwW
  clear h hp hsp hok hok' hwW
  go_enter Tryz.func64, Tryz.ntmps64
  go_wp2_with fail
  rw [← hW]
  clear hW
  refine (put_at u W (w.heap.size :: fs) _ k _ d (HF.out.on ((Below.refl _ _).alloc (Nat.le_refl _) _)) HOK.out.2.2 _ _ [-2] (by decide) (irow_newAt W _ [-2] HZ.out.symm)).mono ?_
  rintro e w1 ⟨⟨v, rfl⟩, hd⟩
  have HE : Hid (DeskAt u W0 fs w1 k (.slice pa p.length pc) (doD p gives (13, a, b) d)) := by
    show DeskAt _ _ _ _ _ _ _
    rw [HDO.out]
    exact HH.out.back (gs := [w.heap.size]) HWB.out hd
  clear hd
  go_wp2
  go_end0
  exact ⟨⟨_, rfl⟩, HE.out⟩

set_option maxRecDepth 100000 in
set_option maxHeartbeats 4000000 in
theorem do_2 (B : Nat) (p : Prg) (hok' : okP p = true) (hsp : SmallP p) (u W0 : World) (fs : List Nat) (w : World) (k : Nat) (pa : Option Addr) (pc : Nat) (hp : SK front B u (.slice pa p.length pc) p) (d : Dsk) (hok : d.ok p) (h : DeskAt u W0 fs w k (.slice pa p.length pc) d) (a : Nat) (b gives : Int) (ha : a < 8) :
    Calls Tryz.prog 64 #[.pointer (some ⟨k, 0, none⟩), .agg #[.int .i64 2, .int .i64 a, .int .i64 b], .int .i64 gives] w fun e w' => (∃ v, e = .returned v) ∧ DeskAt u W0 fs w' k (.slice pa p.length pc) (doD p gives (2, a, b) d) := by
  have HP : Hid (SK front B u (.slice pa p.length pc) p) := hp
  have HSP : Hid (SmallP p) := hsp
  have hp0 : 0 < p.length := (okP_len hok').1
  have h6 : p.length ≤ 6 := (okP_len hok').2
  have HSU : Hid (SupOk p p.length) := (ok_sup hok').sup
  have HH : Hid (DeskAt u W0 fs w k (.slice pa p.length pc) d) := h
  have HOK : Hid (d.ok p) := hok
  obtain ⟨W, hW⟩ : ∃ W, W = w.alloc (.cells #[.int .i64 2, .int .i64 a, .int .i64 b] 39) := ⟨_, rfl⟩
  have hwW : Below w.heap.size w W := by rw [hW]; exact (Below.refl _ _).alloc (Nat.le_refl _) _
  have HF : Hid (DeskAt u W (w.heap.size :: fs) W k (.slice pa p.length pc) d) := by rw [hW]; exact h.fresh _
  have CI : Hid (Cells W w.heap.size [.int .i64 2, .int .i64 a, .int .i64 b]) := by rw [hW]; exact Cells.new w _ rfl _ _
  have HZ : Hid (W.heap.size = w.heap.size + 1) := by rw [hW]; show _ = _; simp
  have HDO : Hid (doD p gives (2, a, b) d = d.load a) := by show _ = _; simp [doD]
  have HWB : Hid (Below w.heap.size w W) := hwW
  clear h hp hsp hok hok' hwW
  go_enter Tryz.func64, Tryz.ntmps64
  go_wp2_with fail
  rw [← hW]
  clear hW
  refine (load_at u W (w.heap.size :: fs) _ k _ d HF.out HOK.out.2.2 a ha).mono ?_
  rintro e w1 ⟨⟨v, rfl⟩, hd⟩
  have HE : Hid (DeskAt u W0 fs w1 k (.slice pa p.length pc) (doD p gives (2, a, b) d)) := by
    show DeskAt _ _ _ _ _ _ _
    rw [HDO.out]
    exact HH.out.back (gs := [w.heap.size]) HWB.out hd
  clear hd
  go_wp2
  go_end0
  exact ⟨⟨_, rfl⟩, HE.out⟩

set_option maxRecDepth 100000 in
set_option maxHeartbeats 4000000 in
theorem do_9 (B : Nat) (p : Prg) (hok' : okP p = true) (hsp : SmallP p) (u W0 : World) (fs : List Nat) (w : World) (k : Nat) (pa : Option Addr) (pc : Nat) (hp : SK front B u (.slice pa p.length pc) p) (d : Dsk) (hok : d.ok p) (h : DeskAt u W0 fs w k (.slice pa p.length pc) d) (a b gives : Int) :
    Calls Tryz.prog 64 #[.pointer (some ⟨k, 0, none⟩), .agg #[.int .i64 9, .int .i64 a, .int .i64 b], .int .i64 gives] w fun e w' => (∃ v, e = .returned v) ∧ DeskAt u W0 fs w' k (.slice pa p.length pc) (doD p gives (9, a, b) d) := by
  have HP : Hid (SK front B u (.slice pa p.length pc) p) := hp
  have HSP : Hid (SmallP p) := hsp
  have hp0 : 0 < p.length := (okP_len hok').1
  have h6 : p.length ≤ 6 := (okP_len hok').2
  have HSU : Hid (SupOk p p.length) := (ok_sup hok').sup
  have HH : Hid (DeskAt u W0 fs w k (.slice pa p.length pc) d) := h
  have HOK : Hid (d.ok p) := hok
  obtain ⟨W, hW⟩ : ∃ W, W = w.alloc (.cells #[.int .i64 9, .int .i64 a, .int .i64 b] 39) := ⟨_, rfl⟩
  have hwW : Below w.heap.size w W := by rw [hW]; exact (Below.refl _ _).alloc (Nat.le_refl _) _
  have HF : Hid (DeskAt u W (w.heap.size :: fs) W k (.slice pa p.length pc) d) := by rw [hW]; exact h.fresh _
  have CI : Hid (Cells W w.heap.size [.int .i64 9, .int .i64 a, .int .i64 b]) := by rw [hW]; exact Cells.new w _ rfl _ _
  have HZ : Hid (W.heap.size = w.heap.size + 1) := by rw [hW]; show _ = _; simp
  have HDO : Hid (doD p gives (9, a, b) d = d.take) := by show _ = _; simp [doD]
  have HWB : Hid (Below w.heap.size w W) := hwW
  clear h hp hsp hok hok' hwW
  go_enter Tryz.func64, Tryz.ntmps64
  go_wp2_with fail
  rw [← hW]
  clear hW
  refine (take_at u W (w.heap.size :: fs) _ k _ d HF.out HOK.out.2.2).mono ?_
  rintro e w1 ⟨rfl, hd⟩
  have HE : Hid (DeskAt u W0 fs w1 k (.slice pa p.length pc) (doD p gives (9, a, b) d)) := by
    show DeskAt _ _ _ _ _ _ _
    rw [HDO.out]
    exact HH.out.back (gs := [w.heap.size]) HWB.out hd
  clear hd
  go_wp2
  go_end0
  exact ⟨⟨_, rfl⟩, HE.out⟩

set_option maxRecDepth 100000 in
set_option maxHeartbeats 4000000 in
theorem do_8 (B : Nat) (p : Prg) (hok' : okP p = true) (hsp : SmallP p) (u W0 : World) (fs : List Nat) (w : World) (k : Nat) (pa : Option Addr) (pc : Nat) (hp : SK front B u (.slice pa p.length pc) p) (d : Dsk) (hok : d.ok p) (h : DeskAt u W0 fs w k (.slice pa p.length pc) d) (a b gives : Int) :
    Calls Tryz.prog 64 #[.pointer (some ⟨k, 0, none⟩), .agg #[.int .i64 8, .int .i64 a, .int .i64 b], .int .i64 gives] w fun e w' => (∃ v, e = .returned v) ∧ DeskAt u W0 fs w' k (.slice pa p.length pc) (doD p gives (8, a, b) d) := by
  have HP : Hid (SK front B u (.slice pa p.length pc) p) := hp
  have HSP : Hid (SmallP p) := hsp
  have hp0 : 0 < p.length := (okP_len hok').1
  have h6 : p.length ≤ 6 := (okP_len hok').2
  have HSU : Hid (SupOk p p.length) := (ok_sup hok').sup
  have HH : Hid (DeskAt u W0 fs w k (.slice pa p.length pc) d) := h
  have HOK : Hid (d.ok p) := hok
  obtain ⟨W, hW⟩ : ∃ W, W = w.alloc (.cells #[.int .i64 8, .int .i64 a, .int .i64 b] 39) := ⟨_, rfl⟩
  have hwW : Below w.heap.size w W := by rw [hW]; exact (Below.refl _ _).alloc (Nat.le_refl _) _
  have HF : Hid (DeskAt u W (w.heap.size :: fs) W k (.slice pa p.length pc) d) := by rw [hW]; exact h.fresh _
  have CI : Hid (Cells W w.heap.size [.int .i64 8, .int .i64 a, .int .i64 b]) := by rw [hW]; exact Cells.new w _ rfl _ _
  have HZ : Hid (W.heap.size = w.heap.size + 1) := by rw [hW]; show _ = _; simp
  have HDO : Hid (doD p gives (8, a, b) d = d.take.put [d.top, d.top]) := by show _ = _; simp [doD]
  have HWB : Hid (Below w.heap.size w W) := hwW
  clear h hp hsp hok hok' hwW
  go_enter Tryz.func64, Tryz.ntmps64
  go_wp2_with fail
  rw [← hW]
  clear hW
  refine (take_at u W (w.heap.size :: fs) _ k _ d HF.out HOK.out.2.2).mono ?_
  rintro e w1 ⟨rfl, hd⟩
  have HD1 : Hid (DeskAt u W (w.heap.size :: fs) w1 k (.slice pa p.length pc) d.take) := hd
  have hl1 : d.take.st.length ≤ 1000 := (Dsk.ok_take HOK.out).2.2
  clear hd
  go_wp2_with fail
  refine (put_at u W (w.heap.size :: fs) _ k _ d.take (HD1.out.on ((Below.refl _ _).alloc (Nat.le_refl _) _)) hl1 _ _ [d.top, d.top] (by simp) (irow_new w1 [d.top, d.top])).mono ?_
  rintro e w2 ⟨⟨v, rfl⟩, hd⟩
  have HE : Hid (DeskAt u W0 fs w2 k (.slice pa p.length pc) (doD p gives (8, a, b) d)) := by
    show DeskAt _ _ _ _ _ _ _
    rw [HDO.out]
    exact HH.out.back (gs := [w.heap.size]) HWB.out hd
  clear hd
  go_wp2
  go_end0
  exact ⟨⟨_, rfl⟩, HE.out⟩

set_option maxRecDepth 100000 in
set_option maxHeartbeats 4000000 in
theorem do_10 (B : Nat) (p : Prg) (hok' : okP p = true) (hsp : SmallP p) (u W0 : World) (fs : List Nat) (w : World) (k : Nat) (pa : Option Addr) (pc : Nat) (hp : SK front B u (.slice pa p.length pc) p) (d : Dsk) (hok : d.ok p) (h : DeskAt u W0 fs w k (.slice pa p.length pc) d) (a b gives : Int) :
    Calls Tryz.prog 64 #[.pointer (some ⟨k, 0, none⟩), .agg #[.int .i64 10, .int .i64 a, .int .i64 b], .int .i64 gives] w fun e w' => (∃ v, e = .returned v) ∧ DeskAt u W0 fs w' k (.slice pa p.length pc) (doD p gives (10, a, b) d) := by
  have HP : Hid (SK front B u (.slice pa p.length pc) p) := hp
  have HSP : Hid (SmallP p) := hsp
  have hp0 : 0 < p.length := (okP_len hok').1
  have h6 : p.length ≤ 6 := (okP_len hok').2
  have HSU : Hid (SupOk p p.length) := (ok_sup hok').sup
  have HH : Hid (DeskAt u W0 fs w k (.slice pa p.length pc) d) := h
  have HOK : Hid (d.ok p) := hok
  obtain ⟨W, hW⟩ : ∃ W, W = w.alloc (.cells #[.int .i64 10, .int .i64 a, .int .i64 b] 39) := ⟨_, rfl⟩
  have hwW : Below w.heap.size w W := by rw [hW]; exact (Below.refl _ _).alloc (Nat.le_refl _) _
  have HF : Hid (DeskAt u W (w.heap.size :: fs) W k (.slice pa p.length pc) d) := by rw [hW]; exact h.fresh _
  have CI : Hid (Cells W w.heap.size [.int .i64 10, .int .i64 a, .int .i64 b]) := by rw [hW]; exact Cells.new w _ rfl _ _
  have HZ : Hid (W.heap.size = w.heap.size + 1) := by rw [hW]; show _ = _; simp
  have HDO : Hid (doD p gives (10, a, b) d = d.take.take.put [d.top, d.take.top]) := by show _ = _; simp [doD, Dsk.swap]
  have HWB : Hid (Below w.heap.size w W) := hwW
  clear h hp hsp hok hok' hwW
  go_enter Tryz.func64, Tryz.ntmps64
  go_wp2_with fail
  rw [← hW]
  clear hW
  refine (take_at u W (w.heap.size :: fs) _ k _ d HF.out HOK.out.2.2).mono ?_
  rintro e w1 ⟨rfl, hd⟩
  have HD1 : Hid (DeskAt u W (w.heap.size :: fs) w1 k (.slice pa p.length pc) d.take) := hd
  have hl1 : d.take.st.length ≤ 1000 := (Dsk.ok_take HOK.out).2.2
  clear hd
  go_wp2_with fail
  refine (take_at u W (w.heap.size :: fs) _ k _ d.take HD1.out hl1).mono ?_
  rintro e w2 ⟨rfl, hd⟩
  have HD2 : Hid (DeskAt u W (w.heap.size :: fs) w2 k (.slice pa p.length pc) d.take.take) := hd
  have hl2 : d.take.take.st.length ≤ 1000 := (Dsk.ok_take (Dsk.ok_take HOK.out)).2.2
  clear hd
  go_wp2_with fail
  refine (put_at u W (w.heap.size :: fs) _ k _ d.take.take (HD2.out.on ((Below.refl _ _).alloc (Nat.le_refl _) _)) hl2 _ _ [d.top, d.take.top] (by simp) (irow_new w2 [d.top, d.take.top])).mono ?_
  rintro e w3 ⟨⟨v, rfl⟩, hd⟩
  have HE : Hid (DeskAt u W0 fs w3 k (.slice pa p.length pc) (doD p gives (10, a, b) d)) := by
    show DeskAt _ _ _ _ _ _ _
    rw [HDO.out]
    exact HH.out.back (gs := [w.heap.size]) HWB.out hd
  clear hd
  go_wp2
  go_end0
  exact ⟨⟨_, rfl⟩, HE.out⟩

set_option maxRecDepth 100000 in
set_option maxHeartbeats 4000000 in
theorem do_11 (B : Nat) (p : Prg) (hok' : okP p = true) (hsp : SmallP p) (u W0 : World) (fs : List Nat) (w : World) (k : Nat) (pa : Option Addr) (pc : Nat) (hp : SK front B u (.slice pa p.length pc) p) (d : Dsk) (hok : d.ok p) (h : DeskAt u W0 fs w k (.slice pa p.length pc) d) (a b gives : Int) :
    Calls Tryz.prog 64 #[.pointer (some ⟨k, 0, none⟩), .agg #[.int .i64 11, .int .i64 a, .int .i64 b], .int .i64 gives] w fun e w' => (∃ v, e = .returned v) ∧ DeskAt u W0 fs w' k (.slice pa p.length pc) (doD p gives (11, a, b) d) := by
  have HP : Hid (SK front B u (.slice pa p.length pc) p) := hp
  have HSP : Hid (SmallP p) := hsp
  have hp0 : 0 < p.length := (okP_len hok').1
  have h6 : p.length ≤ 6 := (okP_len hok').2
  have HSU : Hid (SupOk p p.length) := (ok_sup hok').sup
  have HH : Hid (DeskAt u W0 fs w k (.slice pa p.length pc) d) := h
  have HOK : Hid (d.ok p) := hok
  obtain ⟨W, hW⟩ : ∃ W, W = w.alloc (.cells #[.int .i64 11, .int .i64 a, .int .i64 b] 39) := ⟨_, rfl⟩
  have hwW : Below w.heap.size w W := by rw [hW]; exact (Below.refl _ _).alloc (Nat.le_refl _) _
  have HF : Hid (DeskAt u W (w.heap.size :: fs) W k (.slice pa p.length pc) d) := by rw [hW]; exact h.fresh _
  have CI : Hid (Cells W w.heap.size [.int .i64 11, .int .i64 a, .int .i64 b]) := by rw [hW]; exact Cells.new w _ rfl _ _
  have HZ : Hid (W.heap.size = w.heap.size + 1) := by rw [hW]; show _ = _; simp
  have HDO : Hid (doD p gives (11, a, b) d = d) := by show _ = _; simp [doD]
  have HWB : Hid (Below w.heap.size w W) := hwW
  clear h hp hsp hok hok' hwW
  have HE : Hid (DeskAt u W0 fs W k (.slice pa p.length pc) (doD p gives (11, a, b) d)) := by
    show DeskAt _ _ _ _ _ _ _
    rw [HDO.out]
    exact HH.out.back (gs := [w.heap.size]) HWB.out HF.out
  rw [hW] at HE
  clear hW CI HF HWB HZ
  go_enter Tryz.func64, Tryz.ntmps64
  go_wp2
  go_end0
  exact ⟨⟨_, rfl⟩, HE.out⟩
end Pg
end Go.Proofs.YtfdlljdljefkfaaGreatDoor

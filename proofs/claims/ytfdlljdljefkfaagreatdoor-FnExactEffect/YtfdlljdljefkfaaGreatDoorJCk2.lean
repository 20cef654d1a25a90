/- Lists of kinds that fit, or are joined, as plain functions. -/
import Derived.Test.YtfdlljdljefkfaaGreatDoorJCk0
namespace Go.Proofs.YtfdlljdljefkfaaGreatDoor
namespace Pg
open Go.ChangeShapes Go.WideShapes Go.ChangeAt Go.RowKit St

def fitK (p : Prg) (a b : List Int) (k : Nat) : Bool := (List.range k).all fun j => fitB p (a.getD j 0) (b.getD j 0)
def fitL (p : Prg) (a b : List Int) : Bool := decide (a.length = b.length) && fitK p a b a.length
theorem fitK_step (p : Prg) (a b : List Int) (k : Nat) : fitK p a b (k + 1) = (fitK p a b k && fitB p (a.getD k 0) (b.getD k 0)) := by
  unfold fitK
  rw [List.range_succ, List.all_append]
  simp
theorem fitK_no {p : Prg} {a b : List Int} {k n : Nat} (hk : k < n) (h : fitB p (a.getD k 0) (b.getD k 0) = false) : fitK p a b n = false := by
  cases h2 : fitK p a b n
  · rfl
  · have := List.all_eq_true.1 h2 k (List.mem_range.2 hk)
    rw [h] at this; cases this
def joinK (p : Prg) (a b : List Int) (k : Nat) : List Int := (List.range k).map fun j => joinF p (a.getD j 0) (b.getD j 0)
theorem joinK_len (p : Prg) (a b : List Int) (k : Nat) : (joinK p a b k).length = k := by simp [joinK]
theorem joinK_at {p : Prg} {a b : List Int} {k n : Nat} (hk : k < n) : (joinK p a b n)[k]? = some (joinF p (a.getD k 0) (b.getD k 0)) := by
  simp [joinK, hk]
theorem joinK_take {p : Prg} {a b : List Int} {k n : Nat} (hk : k ≤ n) : (joinK p a b n).take k = joinK p a b k := by
  unfold joinK
  rw [← List.map_take, List.take_range, Nat.min_eq_left hk]
/-- A state that is right where there are so many classes. -/
def stateB (n : Nat) (st lo : List Int) : Bool := decide (st.length ≤ 8) && decide (lo.length = 8) && st.all (kindB n) && lo.all (kindB n)
end Pg
end Go.Proofs.YtfdlljdljefkfaaGreatDoor

/- States of kinds: their order, joins, height. -/
namespace Go.Proofs.YtfdlljdljefkfaaGreatDoor
namespace Pg
open Go.ChangeShapes Go.WideShapes Go.ChangeAt Go.RowKit St

theorem fitL_nil (p : Prg) : fitL p [] [] = true := by simp [fitL, fitK]
theorem fitL_cons (p : Prg) (x y : Int) (a b : List Int) : fitL p (x :: a) (y :: b) = (fitB p x y && fitL p a b) := by
  unfold fitL fitK
  rw [List.length_cons, List.length_cons, List.range_succ_eq_map, List.all_cons, List.all_map]
  have e : (decide (a.length + 1 = b.length + 1)) = decide (a.length = b.length) := by simp
  rw [e, ← Bool.and_assoc, Bool.and_comm (decide _), Bool.and_assoc]
  rfl
theorem fitL_len {p : Prg} {a b : List Int} (h : fitL p a b = true) : a.length = b.length := by
  unfold fitL at h
  simp only [Bool.and_eq_true, decide_eq_true_eq] at h
  exact h.1
/-- One by one. -/
theorem fitL_ind {p : Prg} {C : List Int → List Int → Prop} (h0 : C [] []) (h1 : ∀ x y a b, fitB p x y = true → fitL p a b = true → C a b → C (x :: a) (y :: b)) : ∀ {a b : List Int}, fitL p a b = true → C a b := by
  intro a
  induction a with
  | nil =>
    intro b h
    have := fitL_len h
    cases b with
    | nil => exact h0
    | cons y b => simp at this
  | cons x a ih =>
    intro b h
    cases b with
    | nil => have := fitL_len h; simp at this
    | cons y b =>
      rw [fitL_cons, Bool.and_eq_true] at h
      exact h1 _ _ _ _ h.1 h.2 (ih h.2)
theorem fitL_refl (p : Prg) (a : List Int) : fitL p a a = true := by
  induction a with
  | nil => exact fitL_nil p
  | cons x a ih => rw [fitL_cons, fit_refl, ih]; rfl
theorem fitL_trans {p : Prg} (hs : OkS p) {a b : List Int} (h : fitL p a b = true) : ∀ {c : List Int}, fitL p b c = true → fitL p a c = true := by
  refine fitL_ind (C := fun a b => ∀ {c : List Int}, fitL p b c = true → fitL p a c = true) (fun h => h) ?_ h
  intro x y a b hxy _ ih c hc
  cases c with
  | nil => have := fitL_len hc; simp at this
  | cons z c =>
    rw [fitL_cons, Bool.and_eq_true] at hc ⊢
    exact ⟨fit_trans hs hxy hc.1, ih hc.2⟩
theorem fitL_anti {p : Prg} (hs : OkS p) {a b : List Int} (h : fitL p a b = true) : fitL p b a = true → a = b := by
  refine fitL_ind (C := fun a b => fitL p b a = true → a = b) (fun _ => rfl) ?_ h
  intro x y a b hxy _ ih hc
  rw [fitL_cons, Bool.and_eq_true] at hc
  rw [fit_anti hs hxy hc.1, ih hc.2]
theorem fitL_get {p : Prg} {a b : List Int} (h : fitL p a b = true) (j : Nat) : fitB p (a.getD j 0) (b.getD j 0) = true := by
  revert j
  refine fitL_ind (C := fun a b => ∀ j, fitB p (a.getD j 0) (b.getD j 0) = true) (fun j => by simpa using fit_refl p 0) ?_ h
  intro x y a b hxy _ ih j
  cases j with
  | zero => simpa using hxy
  | succ j => simpa using ih j
theorem joinK_cons (p : Prg) (x y : Int) (a b : List Int) (n : Nat) : joinK p (x :: a) (y :: b) (n + 1) = joinF p x y :: joinK p a b n := by
  unfold joinK
  rw [List.range_succ_eq_map, List.map_cons, List.map_map]
  rfl
def joinL (p : Prg) (a b : List Int) : List Int := joinK p a b a.length
theorem joinL_cons (p : Prg) (x y : Int) (a b : List Int) : joinL p (x :: a) (y :: b) = joinF p x y :: joinL p a b := by
  unfold joinL; rw [List.length_cons, joinK_cons]
theorem joinL_len (p : Prg) (a b : List Int) : (joinL p a b).length = a.length := joinK_len p a b a.length
theorem joinL_left {p : Prg} (hs : OkS p) : ∀ {a b : List Int}, a.length = b.length → fitL p a (joinL p a b) = true := by
  intro a
  induction a with
  | nil => intro b _; exact fitL_nil p
  | cons x a ih =>
    intro b h
    cases b with
    | nil => simp at h
    | cons y b => rw [joinL_cons, fitL_cons, join_left hs, ih (by simpa using h)]; rfl
theorem joinL_right {p : Prg} (hs : OkS p) : ∀ {a b : List Int}, a.length = b.length → fitL p b (joinL p a b) = true := by
  intro a
  induction a with
  | nil => intro b h; cases b with
    | nil => exact fitL_nil p
    | cons y b => simp at h
  | cons x a ih =>
    intro b h
    cases b with
    | nil => simp at h
    | cons y b => rw [joinL_cons, fitL_cons, join_right hs, ih (by simpa using h)]; rfl
theorem joinL_least {p : Prg} (hs : OkS p) {a c : List Int} (h1 : fitL p a c = true) : ∀ {b : List Int}, fitL p b c = true → fitL p (joinL p a b) c = true := by
  refine fitL_ind (C := fun a c => ∀ {b : List Int}, fitL p b c = true → fitL p (joinL p a b) c = true) ?_ ?_ h1
  · intro b h; exact fitL_nil p
  · intro x z a c hxz _ ih b hb
    cases b with
    | nil => have := fitL_len hb; simp at this
    | cons y b =>
      rw [fitL_cons, Bool.and_eq_true] at hb
      rw [joinL_cons, fitL_cons, Bool.and_eq_true]
      exact ⟨join_least hs hxz hb.1, ih hb.2⟩
theorem joinL_kinds {p : Prg} (hs : OkS p) : ∀ {a b : List Int}, a.length = b.length → a.all (kindB p.length) = true → b.all (kindB p.length) = true → (joinL p a b).all (kindB p.length) = true := by
  intro a
  induction a with
  | nil => intro b _ _ _; rfl
  | cons x a ih =>
    intro b h ha hb
    cases b with
    | nil => simp at h
    | cons y b =>
      rw [List.all_cons, Bool.and_eq_true] at ha hb
      rw [joinL_cons, List.all_cons, Bool.and_eq_true]
      exact ⟨join_kind hs ha.1 hb.1, ih (by simpa using h) ha.2 hb.2⟩
def hgtL (p : Prg) (a : List Int) : Nat := (a.map (hgt p)).sum
theorem hgtL_cons (p : Prg) (x : Int) (a : List Int) : hgtL p (x :: a) = hgt p x + hgtL p a := by simp [hgtL]
theorem hgtL_le {p : Prg} (hs : OkS p) {a b : List Int} (h : fitL p a b = true) : hgtL p b ≤ hgtL p a := by
  refine fitL_ind (C := fun a b => hgtL p b ≤ hgtL p a) (Nat.le_refl _) ?_ h
  intro x y a b hxy _ ih
  rw [hgtL_cons, hgtL_cons]
  have := hgt_le hs hxy
  omega
theorem hgtL_lt {p : Prg} (hs : OkS p) {a b : List Int} (h : fitL p a b = true) : a.all (kindB p.length) = true → fitL p b a = false → hgtL p b < hgtL p a := by
  refine fitL_ind (C := fun a b => a.all (kindB p.length) = true → fitL p b a = false → hgtL p b < hgtL p a) ?_ ?_ h
  · intro _ h; rw [fitL_nil] at h; cases h
  · intro x y a b hxy hab ih ha hn
    rw [List.all_cons, Bool.and_eq_true] at ha
    rw [hgtL_cons, hgtL_cons]
    rw [fitL_cons, Bool.and_eq_false_iff] at hn
    have l1 := hgt_le hs hxy
    have l2 := hgtL_le hs hab
    rcases hn with hn | hn
    · have := hgt_lt hs ha.1 hxy hn; omega
    · have := ih ha.2 hn; omega
theorem hgtL_top {p : Prg} (hs : OkS p) (a : List Int) : hgtL p a ≤ 9 * a.length := by
  induction a with
  | nil => simp [hgtL]
  | cons x a ih => rw [hgtL_cons, List.length_cons]; have := hgt_top hs x; omega

/-- What is on the stack, the locals. -/
abbrev Sta := List Int × List Int
def okSt (p : Prg) (s : Sta) : Prop := stateB p.length s.1 s.2 = true
def leS (p : Prg) (a b : Sta) : Bool := fitL p a.1 b.1 && fitL p a.2 b.2
def joinS (p : Prg) (a b : Sta) : Sta := (joinL p a.1 b.1, joinL p a.2 b.2)
theorem okSt_iff {p : Prg} {s : Sta} : okSt p s ↔ s.1.length ≤ 8 ∧ s.2.length = 8 ∧ s.1.all (kindB p.length) = true ∧ s.2.all (kindB p.length) = true := by
  unfold okSt stateB
  simp only [Bool.and_eq_true, decide_eq_true_eq, and_assoc]
theorem leS_iff {p : Prg} {a b : Sta} : leS p a b = true ↔ fitL p a.1 b.1 = true ∧ fitL p a.2 b.2 = true := by unfold leS; rw [Bool.and_eq_true]
theorem leS_refl (p : Prg) (a : Sta) : leS p a a = true := leS_iff.2 ⟨fitL_refl _ _, fitL_refl _ _⟩
theorem leS_trans {p : Prg} (hs : OkS p) {a b c : Sta} (h1 : leS p a b = true) (h2 : leS p b c = true) : leS p a c = true :=
  leS_iff.2 ⟨fitL_trans hs (leS_iff.1 h1).1 (leS_iff.1 h2).1, fitL_trans hs (leS_iff.1 h1).2 (leS_iff.1 h2).2⟩
theorem leS_anti {p : Prg} (hs : OkS p) {a b : Sta} (h1 : leS p a b = true) (h2 : leS p b a = true) : a = b :=
  Prod.ext (fitL_anti hs (leS_iff.1 h1).1 (leS_iff.1 h2).1) (fitL_anti hs (leS_iff.1 h1).2 (leS_iff.1 h2).2)
theorem leS_len {p : Prg} {a b : Sta} (h : leS p a b = true) : a.1.length = b.1.length := fitL_len (leS_iff.1 h).1
theorem joinS_left {p : Prg} (hs : OkS p) {a b : Sta} (h1 : a.1.length = b.1.length) (h2 : a.2.length = b.2.length) : leS p a (joinS p a b) = true := leS_iff.2 ⟨joinL_left hs h1, joinL_left hs h2⟩
theorem joinS_right {p : Prg} (hs : OkS p) {a b : Sta} (h1 : a.1.length = b.1.length) (h2 : a.2.length = b.2.length) : leS p b (joinS p a b) = true := leS_iff.2 ⟨joinL_right hs h1, joinL_right hs h2⟩
theorem joinS_least {p : Prg} (hs : OkS p) {a b c : Sta} (h1 : leS p a c = true) (h2 : leS p b c = true) : leS p (joinS p a b) c = true :=
  leS_iff.2 ⟨joinL_least hs (leS_iff.1 h1).1 (leS_iff.1 h2).1, joinL_least hs (leS_iff.1 h1).2 (leS_iff.1 h2).2⟩
theorem joinS_ok {p : Prg} (hs : OkS p) {a b : Sta} (ha : okSt p a) (hb : okSt p b) (h1 : a.1.length = b.1.length) : okSt p (joinS p a b) := by
  rw [okSt_iff] at *
  refine ⟨by show (joinL p a.1 b.1).length ≤ 8; rw [joinL_len]; exact ha.1, by show (joinL p a.2 b.2).length = 8; rw [joinL_len]; exact ha.2.1, joinL_kinds hs h1 ha.2.2.1 hb.2.2.1, joinL_kinds hs (by rw [ha.2.1, hb.2.1]) ha.2.2.2 hb.2.2.2⟩
def hgtS (p : Prg) (s : Sta) : Nat := hgtL p s.1 + hgtL p s.2
theorem hgtS_lt {p : Prg} (hs : OkS p) {a b : Sta} (h : leS p a b = true) (ha : okSt p a) (hn : leS p b a = false) : hgtS p b < hgtS p a := by
  obtain ⟨h1, h2⟩ := leS_iff.1 h
  rw [okSt_iff] at ha
  unfold leS at hn
  rw [Bool.and_eq_false_iff] at hn
  have l1 := hgtL_le hs h1
  have l2 := hgtL_le hs h2
  unfold hgtS
  rcases hn with hn | hn
  · have := hgtL_lt hs h1 ha.2.2.1 hn; omega
  · have := hgtL_lt hs h2 ha.2.2.2 hn; omega
theorem hgtS_top {p : Prg} (hs : OkS p) {s : Sta} (h : okSt p s) : hgtS p s ≤ 144 := by
  rw [okSt_iff] at h
  have := hgtL_top hs s.1
  have := hgtL_top hs s.2
  unfold hgtS
  omega
/-- A fresh one does not fit what was found: what both make is more. -/
theorem join_more {p : Prg} (hs : OkS p) {a b : Sta} (ha : okSt p a) (hb : okSt p b) (h1 : a.1.length = b.1.length) (hn : leS p b a = false) : hgtS p (joinS p a b) < hgtS p a := by
  have h2 : a.2.length = b.2.length := by rw [okSt_iff] at ha hb; rw [ha.2.1, hb.2.1]
  refine hgtS_lt hs (joinS_left hs h1 h2) ha ?_
  cases h : leS p (joinS p a b) a
  · rfl
  · rw [leS_trans hs (joinS_right hs h1 h2) h] at hn; cases hn
end Pg
end Go.Proofs.YtfdlljdljefkfaaGreatDoor

/- What a step makes of a state of kinds, as a plain function; of less it makes less. -/
namespace Go.Proofs.YtfdlljdljefkfaaGreatDoor
namespace Pg
open Go.ChangeShapes Go.WideShapes Go.ChangeAt Go.RowKit St

/-- The stack without as many as are wanted, where there are so many and each fits. -/
def tkF (p : Prg) (ws st : List Int) : Option (List Int) :=
  if ws.length ≤ st.length ∧ fitL p (st.drop (st.length - ws.length)) ws = true then some (st.take (st.length - ws.length)) else none
def putF (lo st ks : List Int) : Option Sta := if (st ++ ks).length ≤ 8 then some (st ++ ks, lo) else none
/-- Takes what is wanted and puts. -/
def tpF (p : Prg) (s : Sta) (ws ks : List Int) : Option Sta := (tkF p ws s.1).bind fun r => putF s.2 r ks
def fldF (p : Prg) (c f : Int) : Option Int := (p[c.toNat]?).bind fun k => k.fields[f.toNat]?
/-- The method that a call comes to. -/
def callF (p : Prg) (c name : Int) : Option Meth := if selF p c name < 0 then none else (p[(selF p c name).toNat]?).bind fun k => ownF k name
def topF (st : List Int) (b : Nat) : Int := st.getD (st.length - b) 0
def effF (p : Prg) (gives : Int) (i : Tx.Ins) (s : Sta) : Option Sta :=
  if i.1 = 1 then putF s.2 s.1 [-1]
  else if i.1 = 2 then (if s.2.getD i.2.1.toNat 0 = -3 then none else putF s.2 s.1 [s.2.getD i.2.1.toNat 0])
  else if i.1 = 3 then (if s.1.length < 1 then none else some (s.1.take (s.1.length - 1), s.2.set i.2.1.toNat (topF s.1 1)))
  else if i.1 = 4 ∨ i.1 = 5 ∨ i.1 = 6 ∨ i.1 = 7 then tpF p s [-1, -1] [-1]
  else if i.1 = 8 then (if s.1.length < 1 then none else putF s.2 s.1 [topF s.1 1])
  else if i.1 = 9 then (if s.1.length < 1 then none else some (s.1.take (s.1.length - 1), s.2))
  else if i.1 = 10 then (if s.1.length < 2 then none else some (s.1.take (s.1.length - 2) ++ [topF s.1 1, topF s.1 2], s.2))
  else if i.1 = 11 then some s
  else if i.1 = 12 ∨ i.1 = 19 then tpF p s [-1] []
  else if i.1 = 13 then putF s.2 s.1 [-2]
  else if i.1 = 14 then (if i.2.1 < (p.length : Int) then putF s.2 s.1 [i.2.1] else none)
  else if i.1 = 15 then (fldF p i.2.1 i.2.2).bind fun t => tpF p s [i.2.1] [t]
  else if i.1 = 16 then (fldF p i.2.1 i.2.2).bind fun t => tpF p s [i.2.1, t] []
  else if i.1 = 17 then (if i.2.1 < (p.length : Int) then (callF p i.2.1 i.2.2).bind fun m => tpF p s (i.2.1 :: m.args) [m.gives] else none)
  else if i.1 = 18 then (if s.1.length < 1 ∨ topF s.1 1 = -1 ∨ topF s.1 1 = -3 then none else putF s.2 (s.1.take (s.1.length - 1)) [-1])
  else if i.1 = 20 then tpF p s [gives] []
  else none

/-! Lists that fit, in parts. -/
theorem fitL_append {p : Prg} {a b : List Int} (h : fitL p a b = true) {c d : List Int} (h2 : fitL p c d = true) : fitL p (a ++ c) (b ++ d) = true := by
  refine fitL_ind (C := fun a b => fitL p (a ++ c) (b ++ d) = true) h2 ?_ h
  intro x y a b hxy _ ih
  rw [List.cons_append, List.cons_append, fitL_cons, hxy, ih]; rfl
theorem fitL_take {p : Prg} {a b : List Int} (h : fitL p a b = true) : ∀ n, fitL p (a.take n) (b.take n) = true := by
  refine fitL_ind (C := fun a b => ∀ n, fitL p (a.take n) (b.take n) = true) (fun n => by simp [fitL_nil]) ?_ h
  intro x y a b hxy _ ih n
  cases n with
  | zero => simp [fitL_nil]
  | succ n => rw [List.take_succ_cons, List.take_succ_cons, fitL_cons, hxy, ih]; rfl
theorem fitL_drop {p : Prg} {a b : List Int} (h : fitL p a b = true) : ∀ n, fitL p (a.drop n) (b.drop n) = true := by
  refine fitL_ind (C := fun a b => ∀ n, fitL p (a.drop n) (b.drop n) = true) (fun n => by simp [fitL_nil]) ?_ h
  intro x y a b hxy hab ih n
  cases n with
  | zero => rw [List.drop_zero, List.drop_zero, fitL_cons, hxy, hab]; rfl
  | succ n => rw [List.drop_succ_cons, List.drop_succ_cons]; exact ih n
theorem fitL_set {p : Prg} {a b : List Int} (h : fitL p a b = true) {x y : Int} (hxy : fitB p x y = true) : ∀ n, fitL p (a.set n x) (b.set n y) = true := by
  refine fitL_ind (C := fun a b => ∀ n, fitL p (a.set n x) (b.set n y) = true) (fun n => by simp [fitL_nil]) ?_ h
  intro u v a b huv hab ih n
  cases n with
  | zero => rw [List.set_cons_zero, List.set_cons_zero, fitL_cons, hxy, hab]; rfl
  | succ n => rw [List.set_cons_succ, List.set_cons_succ, fitL_cons, huv, ih]; rfl
theorem fitL_one (p : Prg) (x y : Int) : fitL p [x] [y] = fitB p x y := by rw [fitL_cons, fitL_nil, Bool.and_true]

theorem tkF_some {p : Prg} {ws st r : List Int} (h : tkF p ws st = some r) : ws.length ≤ st.length ∧ fitL p (st.drop (st.length - ws.length)) ws = true ∧ r = st.take (st.length - ws.length) := by
  unfold tkF at h
  split at h
  · rename_i hc
    exact ⟨hc.1, hc.2, by simpa using h.symm⟩
  · cases h
theorem putF_some {lo st ks : List Int} {t : Sta} (h : putF lo st ks = some t) : (st ++ ks).length ≤ 8 ∧ t = (st ++ ks, lo) := by
  unfold putF at h
  split at h
  · rename_i hc
    exact ⟨hc, by simpa using h.symm⟩
  · cases h
theorem tpF_some {p : Prg} {s t : Sta} {ws ks : List Int} (h : tpF p s ws ks = some t) : ∃ r, tkF p ws s.1 = some r ∧ putF s.2 r ks = some t := by
  unfold tpF at h
  cases hr : tkF p ws s.1 with
  | none => rw [hr] at h; cases h
  | some r => rw [hr] at h; exact ⟨r, rfl, h⟩
/-- Of less there is less. -/
theorem tk_less {p : Prg} (hs : OkS p) {ws a b r : List Int} (h : fitL p a b = true) (hr : tkF p ws b = some r) : ∃ r', tkF p ws a = some r' ∧ fitL p r' r = true := by
  obtain ⟨h1, h2, rfl⟩ := tkF_some hr
  have hl := fitL_len h
  refine ⟨a.take (b.length - ws.length), ?_, fitL_take h _⟩
  unfold tkF
  rw [hl, if_pos ⟨h1, fitL_trans hs (fitL_drop h _) h2⟩]
theorem put_less {p : Prg} {lo lo' a b ks ks' : List Int} {t : Sta} (hlo : fitL p lo lo' = true) (h : fitL p a b = true) (hk : fitL p ks ks' = true) (ht : putF lo' b ks' = some t) : ∃ t', putF lo a ks = some t' ∧ leS p t' t = true := by
  obtain ⟨h1, rfl⟩ := putF_some ht
  have e := fitL_len (fitL_append h hk)
  exact ⟨(a ++ ks, lo), by unfold putF; rw [e, if_pos h1], leS_iff.2 ⟨fitL_append h hk, hlo⟩⟩
theorem tp_less {p : Prg} (hs : OkS p) {s s' t : Sta} {ws ks : List Int} (h : leS p s s' = true) (ht : tpF p s' ws ks = some t) : ∃ t', tpF p s ws ks = some t' ∧ leS p t' t = true := by
  obtain ⟨r, h1, h2⟩ := tpF_some ht
  obtain ⟨r', k1, k2⟩ := tk_less hs (leS_iff.1 h).1 h1
  obtain ⟨t', k3, k4⟩ := put_less (leS_iff.1 h).2 k2 (fitL_refl p ks) h2
  exact ⟨t', by unfold tpF; rw [k1]; exact k3, k4⟩
theorem top_less {p : Prg} {a b : List Int} (h : fitL p a b = true) (k : Nat) : fitB p (topF a k) (topF b k) = true := by
  unfold topF; rw [fitL_len h]; exact fitL_get h _
theorem fit_none {p : Prg} {a b : Int} (h : fitB p a b = true) (hn : b ≠ -3) : a ≠ -3 := by
  rintro rfl
  rcases (fit_iff _ _ _).1 h with h | h | h | h <;> omega
theorem fit_int {p : Prg} {a b : Int} (h : fitB p a b = true) (hb : b ≠ -3) (hn : b ≠ -1) : a ≠ -1 := by
  rintro rfl
  rcases (fit_iff _ _ _).1 h with h | h | h | h <;> omega
theorem eff_less {p : Prg} (hs : OkS p) (gives : Int) (i : Tx.Ins) {s s' t : Sta} (h : leS p s s' = true) (ht : effF p gives i s' = some t) : ∃ t', effF p gives i s = some t' ∧ leS p t' t = true := by
  obtain ⟨h1, h2⟩ := leS_iff.1 h
  have hl := fitL_len h1
  unfold effF at ht ⊢
  by_cases hc : i.1 = 1
  · rw [if_pos hc] at ht; rw [if_pos hc]; exact put_less h2 h1 (fitL_refl p _) ht
  rw [if_neg hc] at ht ⊢
  clear hc
  by_cases hc : i.1 = 2
  · rw [if_pos hc] at ht; rw [if_pos hc]
    split at ht
    · cases ht
    · rename_i hn
      rw [if_neg (fit_none (fitL_get h2 _) hn)]
      exact put_less h2 h1 (by rw [fitL_one]; exact fitL_get h2 _) ht
  rw [if_neg hc] at ht ⊢
  clear hc
  by_cases hc : i.1 = 3
  · rw [if_pos hc] at ht; rw [if_pos hc, hl]
    split at ht
    · cases ht
    · rw [if_neg ‹_›]
      simp only [Option.some.injEq] at ht
      subst ht
      exact ⟨_, rfl, leS_iff.2 ⟨fitL_take h1 _, fitL_set h2 (top_less h1 _) _⟩⟩
  rw [if_neg hc] at ht ⊢
  clear hc
  by_cases hc : i.1 = 4 ∨ i.1 = 5 ∨ i.1 = 6 ∨ i.1 = 7
  · rw [if_pos hc] at ht; rw [if_pos hc]; exact tp_less hs h ht
  rw [if_neg hc] at ht ⊢
  clear hc
  by_cases hc : i.1 = 8
  · rw [if_pos hc] at ht; rw [if_pos hc, hl]
    split at ht
    · cases ht
    · rw [if_neg ‹_›]
      exact put_less h2 h1 (by rw [fitL_one]; exact top_less h1 _) ht
  rw [if_neg hc] at ht ⊢
  clear hc
  by_cases hc : i.1 = 9
  · rw [if_pos hc] at ht; rw [if_pos hc, hl]
    split at ht
    · cases ht
    · rw [if_neg ‹_›]
      simp only [Option.some.injEq] at ht
      subst ht
      exact ⟨_, rfl, leS_iff.2 ⟨fitL_take h1 _, h2⟩⟩
  rw [if_neg hc] at ht ⊢
  clear hc
  by_cases hc : i.1 = 10
  · rw [if_pos hc] at ht; rw [if_pos hc, hl]
    split at ht
    · cases ht
    · rw [if_neg ‹_›]
      simp only [Option.some.injEq] at ht
      subst ht
      refine ⟨_, rfl, leS_iff.2 ⟨fitL_append (fitL_take h1 _) ?_, h2⟩⟩
      rw [fitL_cons, fitL_one, top_less h1, top_less h1]; rfl
  rw [if_neg hc] at ht ⊢
  clear hc
  by_cases hc : i.1 = 11
  · rw [if_pos hc] at ht; rw [if_pos hc]
    simp only [Option.some.injEq] at ht
    subst ht
    exact ⟨_, rfl, h⟩
  rw [if_neg hc] at ht ⊢
  clear hc
  by_cases hc : i.1 = 12 ∨ i.1 = 19
  · rw [if_pos hc] at ht; rw [if_pos hc]; exact tp_less hs h ht
  rw [if_neg hc] at ht ⊢
  clear hc
  by_cases hc : i.1 = 13
  · rw [if_pos hc] at ht; rw [if_pos hc]; exact put_less h2 h1 (fitL_refl p _) ht
  rw [if_neg hc] at ht ⊢
  clear hc
  by_cases hc : i.1 = 14
  · rw [if_pos hc] at ht; rw [if_pos hc]
    split at ht
    · rw [if_pos ‹_›]; exact put_less h2 h1 (fitL_refl p _) ht
    · cases ht
  rw [if_neg hc] at ht ⊢
  clear hc
  by_cases hc : i.1 = 15
  · rw [if_pos hc] at ht; rw [if_pos hc]
    cases hf : fldF p i.2.1 i.2.2 with
    | none => rw [hf] at ht; cases ht
    | some t0 => rw [hf] at ht; exact tp_less hs h ht
  rw [if_neg hc] at ht ⊢
  clear hc
  by_cases hc : i.1 = 16
  · rw [if_pos hc] at ht; rw [if_pos hc]
    cases hf : fldF p i.2.1 i.2.2 with
    | none => rw [hf] at ht; cases ht
    | some t0 => rw [hf] at ht; exact tp_less hs h ht
  rw [if_neg hc] at ht ⊢
  clear hc
  by_cases hc : i.1 = 17
  · rw [if_pos hc] at ht; rw [if_pos hc]
    split at ht
    · rw [if_pos ‹_›]
      cases hf : callF p i.2.1 i.2.2 with
      | none => rw [hf] at ht; cases ht
      | some t0 => rw [hf] at ht; exact tp_less hs h ht
    · cases ht
  rw [if_neg hc] at ht ⊢
  clear hc
  by_cases hc : i.1 = 18
  · rw [if_pos hc] at ht; rw [if_pos hc, hl]
    split at ht
    · cases ht
    · rename_i hn
      simp only [not_or] at hn
      rw [if_neg (by simp only [not_or]; exact ⟨hn.1, fit_int (top_less h1 _) hn.2.2 hn.2.1, fit_none (top_less h1 _) hn.2.2⟩)]
      exact put_less h2 (fitL_take h1 _) (fitL_refl p _) ht
  rw [if_neg hc] at ht ⊢
  clear hc
  by_cases hc : i.1 = 20
  · rw [if_pos hc] at ht; rw [if_pos hc]; exact tp_less hs h ht
  · rw [if_neg hc] at ht; cases ht

/-! What comes of a state that is right is right. -/
theorem kinds_take {f : Int → Bool} {l : List Int} (h : l.all f = true) (n : Nat) : (l.take n).all f = true :=
  List.all_eq_true.2 fun x hx => List.all_eq_true.1 h x (List.mem_of_mem_take hx)
theorem all_getD {n : Nat} {l : List Int} (h : l.all (kindB n) = true) (h0 : 0 < n) (k : Nat) : kindB n (l.getD k 0) = true := by
  rw [List.getD_eq_getElem?_getD]
  cases hk : l[k]? with
  | none => exact kind_of (by simp) (by simp; omega)
  | some x => exact List.all_eq_true.1 h x (List.mem_of_getElem? hk)
theorem put_ok {p : Prg} {lo st ks : List Int} {t : Sta} (hlo : lo.length = 8) (hl : lo.all (kindB p.length) = true) (hs : st.all (kindB p.length) = true) (hk : ks.all (kindB p.length) = true) (h : putF lo st ks = some t) : okSt p t := by
  obtain ⟨h1, rfl⟩ := putF_some h
  rw [okSt_iff]
  exact ⟨h1, hlo, by show (st ++ ks).all _ = true; rw [List.all_append, hs, hk]; rfl, hl⟩
theorem tp_ok {p : Prg} {s t : Sta} {ws ks : List Int} (hs : okSt p s) (hk : ks.all (kindB p.length) = true) (h : tpF p s ws ks = some t) : okSt p t := by
  obtain ⟨r, h1, h2⟩ := tpF_some h
  obtain ⟨_, _, rfl⟩ := tkF_some h1
  rw [okSt_iff] at hs
  exact put_ok hs.2.1 hs.2.2.2 (kinds_take hs.2.2.1 _) hk h2
theorem ty_kind {n : Nat} {t : Int} (h : tyB n t = true) : kindB n t = true := by
  simp only [tyB, Bool.or_eq_true, Bool.and_eq_true, decide_eq_true_eq] at h
  exact kind_of (by omega) (by omega)
theorem okC_of {p : Prg} (hok : okP p = true) {c : Nat} {k : Cls} (hk : p[c]? = some k) : okCB p c k = true := by
  have hc := (List.getElem?_eq_some_iff.1 hk).1
  rw [← okAt_of hk]; exact okP_at hok hc
theorem fld_ty {p : Prg} (hok : okP p = true) {c f t : Int} (h : fldF p c f = some t) : tyB p.length t = true := by
  unfold fldF at h
  cases hk : p[c.toNat]? with
  | none => rw [hk] at h; cases h
  | some k =>
    rw [hk] at h
    have h2 := okC_of hok hk
    unfold okCB at h2
    simp only [Bool.and_eq_true] at h2
    exact List.all_eq_true.1 h2.1.1.2 t (List.mem_of_getElem? h)
theorem ownF_in {c : Cls} {name : Int} {m : Meth} (h : ownF c name = some m) : m ∈ c.meths ∧ m.name = name := by
  unfold ownF at h
  exact ⟨List.mem_of_find?_eq_some h, by simpa using List.find?_some h⟩
theorem meth_ok {p : Prg} (hok : okP p = true) {c : Nat} {k : Cls} (hk : p[c]? = some k) {m : Meth} (hm : m ∈ k.meths) : okMB p.length m = true := by
  have h2 := okC_of hok hk
  obtain ⟨j, hj, rfl⟩ := List.getElem_of_mem hm
  have := okC_meth h2 hj
  unfold okK at this
  rw [List.getElem?_eq_getElem hj] at this
  simp only [Bool.and_eq_true] at this
  exact this.1.1
theorem okM_parts {n : Nat} {m : Meth} (h : okMB n m = true) : m.args.length ≤ 3 ∧ m.args.all (tyB n) = true ∧ tyB n m.gives = true ∧ Lay.codeOk m.code = true := by
  unfold okMB at h
  simp only [Bool.and_eq_true, decide_eq_true_eq] at h
  exact ⟨h.1.1.1.2, h.1.1.2, h.1.2, h.2⟩
theorem call_ok {p : Prg} (hok : okP p = true) {c name : Int} {m : Meth} (h : callF p c name = some m) : okMB p.length m = true := by
  unfold callF at h
  split at h
  · cases h
  · cases hk : p[(selF p c name).toNat]? with
    | none => rw [hk] at h; cases h
    | some k => rw [hk] at h; exact meth_ok hok hk (ownF_in h).1
theorem ok_sup {p : Prg} (hok : okP p = true) : OkS p := ⟨SupOk.of fun _ hi => okP_at hok hi, (okP_len hok).2⟩
theorem eff_ok {p : Prg} (hok : okP p = true) (gives : Int) {i : Tx.Ins} (hi : Tx.okT i = true) {s t : Sta} (hs : okSt p s) (ht : effF p gives i s = some t) : okSt p t := by
  have h0 : 0 < p.length := (okP_len hok).1
  have hs' := okSt_iff.1 hs
  have k1 : ∀ x, kindB p.length x = true → List.all [x] (kindB p.length) = true := fun x hx => by simp [hx]
  unfold effF at ht
  by_cases hc : i.1 = 1
  · rw [if_pos hc] at ht
    exact put_ok hs'.2.1 hs'.2.2.2 hs'.2.2.1 (k1 _ (kind_of (by omega) (by omega))) ht
  rw [if_neg hc] at ht
  clear hc
  by_cases hc : i.1 = 2
  · rw [if_pos hc] at ht
    split at ht
    · cases ht
    · exact put_ok hs'.2.1 hs'.2.2.2 hs'.2.2.1 (k1 _ (all_getD hs'.2.2.2 h0 _)) ht
  rw [if_neg hc] at ht
  clear hc
  by_cases hc : i.1 = 3
  · rw [if_pos hc] at ht
    split at ht
    · cases ht
    · simp only [Option.some.injEq] at ht
      subst ht
      rw [okSt_iff]
      refine ⟨by simp; omega, by simpa using hs'.2.1, kinds_take hs'.2.2.1 _, ?_⟩
      refine List.all_eq_true.2 fun x hx => ?_
      rcases List.mem_or_eq_of_mem_set hx with hx | rfl
      · exact List.all_eq_true.1 hs'.2.2.2 x hx
      · exact all_getD hs'.2.2.1 h0 _
  rw [if_neg hc] at ht
  clear hc
  by_cases hc : i.1 = 4 ∨ i.1 = 5 ∨ i.1 = 6 ∨ i.1 = 7
  · rw [if_pos hc] at ht
    exact tp_ok hs (k1 _ (kind_of (by omega) (by omega))) ht
  rw [if_neg hc] at ht
  clear hc
  by_cases hc : i.1 = 8
  · rw [if_pos hc] at ht
    split at ht
    · cases ht
    · exact put_ok hs'.2.1 hs'.2.2.2 hs'.2.2.1 (k1 _ (all_getD hs'.2.2.1 h0 _)) ht
  rw [if_neg hc] at ht
  clear hc
  by_cases hc : i.1 = 9
  · rw [if_pos hc] at ht
    split at ht
    · cases ht
    · simp only [Option.some.injEq] at ht
      subst ht
      rw [okSt_iff]
      exact ⟨by simp; omega, hs'.2.1, kinds_take hs'.2.2.1 _, hs'.2.2.2⟩
  rw [if_neg hc] at ht
  clear hc
  by_cases hc : i.1 = 10
  · rw [if_pos hc] at ht
    split at ht
    · cases ht
    · simp only [Option.some.injEq] at ht
      subst ht
      rw [okSt_iff]
      refine ⟨by simp; omega, hs'.2.1, ?_, hs'.2.2.2⟩
      show List.all (_ ++ _) _ = true
      rw [List.all_append, kinds_take hs'.2.2.1]
      have a1 : kindB p.length (topF s.1 1) = true := all_getD hs'.2.2.1 h0 _
      have a2 : kindB p.length (topF s.1 2) = true := all_getD hs'.2.2.1 h0 _
      simp [a1, a2]
  rw [if_neg hc] at ht
  clear hc
  by_cases hc : i.1 = 11
  · rw [if_pos hc] at ht
    simp only [Option.some.injEq] at ht
    subst ht
    exact hs
  rw [if_neg hc] at ht
  clear hc
  by_cases hc : i.1 = 12 ∨ i.1 = 19
  · rw [if_pos hc] at ht
    exact tp_ok hs rfl ht
  rw [if_neg hc] at ht
  clear hc
  by_cases hc : i.1 = 13
  · rw [if_pos hc] at ht
    exact put_ok hs'.2.1 hs'.2.2.2 hs'.2.2.1 (k1 _ (kind_of (by omega) (by omega))) ht
  rw [if_neg hc] at ht
  clear hc
  by_cases hc : i.1 = 14
  · rw [if_pos hc] at ht
    split at ht
    · rename_i hlt
      have : 0 ≤ i.2.1 := by
        unfold Tx.okT Tx.okI at hi
        rw [if_neg (by omega)] at hi
        simp only [Bool.and_eq_true, decide_eq_true_eq] at hi
        exact hi.1.1.1
      exact put_ok hs'.2.1 hs'.2.2.2 hs'.2.2.1 (k1 _ (kind_of (by omega) hlt)) ht
    · cases ht
  rw [if_neg hc] at ht
  clear hc
  by_cases hc : i.1 = 15
  · rw [if_pos hc] at ht
    cases hf : fldF p i.2.1 i.2.2 with
    | none => rw [hf] at ht; cases ht
    | some t0 => rw [hf] at ht; exact tp_ok hs (k1 _ (ty_kind (fld_ty hok hf))) ht
  rw [if_neg hc] at ht
  clear hc
  by_cases hc : i.1 = 16
  · rw [if_pos hc] at ht
    cases hf : fldF p i.2.1 i.2.2 with
    | none => rw [hf] at ht; cases ht
    | some t0 => rw [hf] at ht; exact tp_ok hs rfl ht
  rw [if_neg hc] at ht
  clear hc
  by_cases hc : i.1 = 17
  · rw [if_pos hc] at ht
    split at ht
    · cases hf : callF p i.2.1 i.2.2 with
      | none => rw [hf] at ht; cases ht
      | some m => rw [hf] at ht; exact tp_ok hs (k1 _ (ty_kind (okM_parts (call_ok hok hf)).2.2.1)) ht
    · cases ht
  rw [if_neg hc] at ht
  clear hc
  by_cases hc : i.1 = 18
  · rw [if_pos hc] at ht
    split at ht
    · cases ht
    · exact put_ok hs'.2.1 hs'.2.2.2 (kinds_take hs'.2.2.1 _) (k1 _ (kind_of (by omega) (by omega))) ht
  rw [if_neg hc] at ht
  clear hc
  by_cases hc : i.1 = 20
  · rw [if_pos hc] at ht
    exact tp_ok hs rfl ht
  rw [if_neg hc] at ht
  cases ht
end Pg
end Go.Proofs.YtfdlljdljefkfaaGreatDoor

/- States of kinds: their order, joins, height. -/
import Derived.Test.YtkcbbpfclfncpaaDoorCk0
import Derived.Test.YtkcbbpfclfncpaaDoorKl0
namespace Go.Proofs.YtkcbbpfclfncpaaDoor
namespace Pg
open Go.ChangeShapes Go.WideShapes Go.ChangeAt Go.RowKit St

theorem fitL_nil (p : Prg) : fitL p [] [] = true := by simp [fitL, fitK]
theorem fitL_cons (p : Prg) (x y : Int) (a b : List Int) : fitL p (x :: a) (y :: b) = (fitB p x y && fitL p a b) := by
  unfold fitL fitK
  rw [List.length_cons, List.length_cons, List.range_succ_eq_map, List.all_cons, List.all_map]
  have e : (decide (a.length + 1 = b.length + 1)) = decide (a.length = b.length) := by simp
  rw [e, ← Bool.and_assoc, Bool.and_comm (decide _), Bool.and_assoc]
  rfl
theorem fitL_len {p : Prg} {a b : List Int} (h : fitL p a b = true) : a.length = b.length := by
  unfold fitL at h
  simp only [Bool.and_eq_true, decide_eq_true_eq] at h
  exact h.1
/-- One by one. -/
theorem fitL_ind {p : Prg} {C : List Int → List Int → Prop} (h0 : C [] []) (h1 : ∀ x y a b, fitB p x y = true → fitL p a b = true → C a b → C (x :: a) (y :: b)) : ∀ {a b : List Int}, fitL p a b = true → C a b := by
  intro a
  induction a with
  | nil =>
    intro b h
    have := fitL_len h
    cases b with
    | nil => exact h0
    | cons y b => simp at this
  | cons x a ih =>
    intro b h
    cases b with
    | nil => have := fitL_len h; simp at this
    | cons y b =>
      rw [fitL_cons, Bool.and_eq_true] at h
      exact h1 _ _ _ _ h.1 h.2 (ih h.2)
theorem fitL_refl (p : Prg) (a : List Int) : fitL p a a = true := by
  induction a with
  | nil => exact fitL_nil p
  | cons x a ih => rw [fitL_cons, fit_refl, ih]; rfl
theorem fitL_trans {p : Prg} (hs : OkS p) {a b : List Int} (h : fitL p a b = true) : ∀ {c : List Int}, fitL p b c = true → fitL p a c = true := by
  refine fitL_ind (C := fun a b => ∀ {c : List Int}, fitL p b c = true → fitL p a c = true) (fun h => h) ?_ h
  intro x y a b hxy _ ih c hc
  cases c with
  | nil => have := fitL_len hc; simp at this
  | cons z c =>
    rw [fitL_cons, Bool.and_eq_true] at hc ⊢
    exact ⟨fit_trans hs hxy hc.1, ih hc.2⟩
theorem fitL_anti {p : Prg} (hs : OkS p) {a b : List Int} (h : fitL p a b = true) : fitL p b a = true → a = b := by
  refine fitL_ind (C := fun a b => fitL p b a = true → a = b) (fun _ => rfl) ?_ h
  intro x y a b hxy _ ih hc
  rw [fitL_cons, Bool.and_eq_true] at hc
  rw [fit_anti hs hxy hc.1, ih hc.2]
theorem fitL_get {p : Prg} {a b : List Int} (h : fitL p a b = true) (j : Nat) : fitB p (a.getD j 0) (b.getD j 0) = true := by
  revert j
  refine fitL_ind (C := fun a b => ∀ j, fitB p (a.getD j 0) (b.getD j 0) = true) (fun j => by simpa using fit_refl p 0) ?_ h
  intro x y a b hxy _ ih j
  cases j with
  | zero => simpa using hxy
  | succ j => simpa using ih j
theorem joinK_cons (p : Prg) (x y : Int) (a b : List Int) (n : Nat) : joinK p (x :: a) (y :: b) (n + 1) = joinF p x y :: joinK p a b n := by
  unfold joinK
  rw [List.range_succ_eq_map, List.map_cons, List.map_map]
  rfl
def joinL (p : Prg) (a b : List Int) : List Int := joinK p a b a.length
theorem joinL_cons (p : Prg) (x y : Int) (a b : List Int) : joinL p (x :: a) (y :: b) = joinF p x y :: joinL p a b := by
  unfold joinL; rw [List.length_cons, joinK_cons]
theorem joinL_len (p : Prg) (a b : List Int) : (joinL p a b).length = a.length := joinK_len p a b a.length
theorem joinL_left {p : Prg} (hs : OkS p) : ∀ {a b : List Int}, a.length = b.length → fitL p a (joinL p a b) = true := by
  intro a
  induction a with
  | nil => intro b _; exact fitL_nil p
  | cons x a ih =>
    intro b h
    cases b with
    | nil => simp at h
    | cons y b => rw [joinL_cons, fitL_cons, join_left hs, ih (by simpa using h)]; rfl
theorem joinL_right {p : Prg} (hs : OkS p) : ∀ {a b : List Int}, a.length = b.length → fitL p b (joinL p a b) = true := by
  intro a
  induction a with
  | nil => intro b h; cases b with
    | nil => exact fitL_nil p
    | cons y b => simp at h
  | cons x a ih =>
    intro b h
    cases b with
    | nil => simp at h
    | cons y b => rw [joinL_cons, fitL_cons, join_right hs, ih (by simpa using h)]; rfl
theorem joinL_least {p : Prg} (hs : OkS p) {a c : List Int} (h1 : fitL p a c = true) : ∀ {b : List Int}, fitL p b c = true → fitL p (joinL p a b) c = true := by
  refine fitL_ind (C := fun a c => ∀ {b : List Int}, fitL p b c = true → fitL p (joinL p a b) c = true) ?_ ?_ h1
  · intro b h; exact fitL_nil p
  · intro x z a c hxz _ ih b hb
    cases b with
    | nil => have := fitL_len hb; simp at this
    | cons y b =>
      rw [fitL_cons, Bool.and_eq_true] at hb
      rw [joinL_cons, fitL_cons, Bool.and_eq_true]
      exact ⟨join_least hs hxz hb.1, ih hb.2⟩
theorem joinL_kinds {p : Prg} (hs : OkS p) : ∀ {a b : List Int}, a.length = b.length → a.all (kindB p.length) = true → b.all (kindB p.length) = true → (joinL p a b).all (kindB p.length) = true := by
  intro a
  induction a with
  | nil => intro b _ _ _; rfl
  | cons x a ih =>
    intro b h ha hb
    cases b with
    | nil => simp at h
    | cons y b =>
      rw [List.all_cons, Bool.and_eq_true] at ha hb
      rw [joinL_cons, List.all_cons, Bool.and_eq_true]
      exact ⟨join_kind hs ha.1 hb.1, ih (by simpa using h) ha.2 hb.2⟩
def hgtL (p : Prg) (a : List Int) : Nat := (a.map (hgt p)).sum
theorem hgtL_cons (p : Prg) (x : Int) (a : List Int) : hgtL p (x :: a) = hgt p x + hgtL p a := by simp [hgtL]
theorem hgtL_le {p : Prg} (hs : OkS p) {a b : List Int} (h : fitL p a b = true) : hgtL p b ≤ hgtL p a := by
  refine fitL_ind (C := fun a b => hgtL p b ≤ hgtL p a) (Nat.le_refl _) ?_ h
  intro x y a b hxy _ ih
  rw [hgtL_cons, hgtL_cons]
  have := hgt_le hs hxy
  omega
theorem hgtL_lt {p : Prg} (hs : OkS p) {a b : List Int} (h : fitL p a b = true) : a.all (kindB p.length) = true → fitL p b a = false → hgtL p b < hgtL p a := by
  refine fitL_ind (C := fun a b => a.all (kindB p.length) = true → fitL p b a = false → hgtL p b < hgtL p a) ?_ ?_ h
  · intro _ h; rw [fitL_nil] at h; cases h
  · intro x y a b hxy hab ih ha hn
    rw [List.all_cons, Bool.and_eq_true] at ha
    rw [hgtL_cons, hgtL_cons]
    rw [fitL_cons, Bool.and_eq_false_iff] at hn
    have l1 := hgt_le hs hxy
    have l2 := hgtL_le hs hab
    rcases hn with hn | hn
    · have := hgt_lt hs ha.1 hxy hn; omega
    · have := ih ha.2 hn; omega
theorem hgtL_top {p : Prg} (hs : OkS p) (a : List Int) : hgtL p a ≤ 9 * a.length := by
  induction a with
  | nil => simp [hgtL]
  | cons x a ih => rw [hgtL_cons, List.length_cons]; have := hgt_top hs x; omega

/-- What is on the stack, the locals. -/
abbrev Sta := List Int × List Int
def okSt (p : Prg) (s : Sta) : Prop := stateB p.length s.1 s.2 = true
def leS (p : Prg) (a b : Sta) : Bool := fitL p a.1 b.1 && fitL p a.2 b.2
def joinS (p : Prg) (a b : Sta) : Sta := (joinL p a.1 b.1, joinL p a.2 b.2)
theorem okSt_iff {p : Prg} {s : Sta} : okSt p s ↔ s.1.length ≤ 8 ∧ s.2.length = 8 ∧ s.1.all (kindB p.length) = true ∧ s.2.all (kindB p.length) = true := by
  unfold okSt stateB
  simp only [Bool.and_eq_true, decide_eq_true_eq, and_assoc]
theorem leS_iff {p : Prg} {a b : Sta} : leS p a b = true ↔ fitL p a.1 b.1 = true ∧ fitL p a.2 b.2 = true := by unfold leS; rw [Bool.and_eq_true]
theorem leS_refl (p : Prg) (a : Sta) : leS p a a = true := leS_iff.2 ⟨fitL_refl _ _, fitL_refl _ _⟩
theorem leS_trans {p : Prg} (hs : OkS p) {a b c : Sta} (h1 : leS p a b = true) (h2 : leS p b c = true) : leS p a c = true :=
  leS_iff.2 ⟨fitL_trans hs (leS_iff.1 h1).1 (leS_iff.1 h2).1, fitL_trans hs (leS_iff.1 h1).2 (leS_iff.1 h2).2⟩
theorem leS_anti {p : Prg} (hs : OkS p) {a b : Sta} (h1 : leS p a b = true) (h2 : leS p b a = true) : a = b :=
  Prod.ext (fitL_anti hs (leS_iff.1 h1).1 (leS_iff.1 h2).1) (fitL_anti hs (leS_iff.1 h1).2 (leS_iff.1 h2).2)
theorem leS_len {p : Prg} {a b : Sta} (h : leS p a b = true) : a.1.length = b.1.length := fitL_len (leS_iff.1 h).1
theorem joinS_left {p : Prg} (hs : OkS p) {a b : Sta} (h1 : a.1.length = b.1.length) (h2 : a.2.length = b.2.length) : leS p a (joinS p a b) = true := leS_iff.2 ⟨joinL_left hs h1, joinL_left hs h2⟩
theorem joinS_right {p : Prg} (hs : OkS p) {a b : Sta} (h1 : a.1.length = b.1.length) (h2 : a.2.length = b.2.length) : leS p b (joinS p a b) = true := leS_iff.2 ⟨joinL_right hs h1, joinL_right hs h2⟩
theorem joinS_least {p : Prg} (hs : OkS p) {a b c : Sta} (h1 : leS p a c = true) (h2 : leS p b c = true) : leS p (joinS p a b) c = true :=
  leS_iff.2 ⟨joinL_least hs (leS_iff.1 h1).1 (leS_iff.1 h2).1, joinL_least hs (leS_iff.1 h1).2 (leS_iff.1 h2).2⟩
theorem joinS_ok {p : Prg} (hs : OkS p) {a b : Sta} (ha : okSt p a) (hb : okSt p b) (h1 : a.1.length = b.1.length) : okSt p (joinS p a b) := by
  rw [okSt_iff] at *
  refine ⟨by show (joinL p a.1 b.1).length ≤ 8; rw [joinL_len]; exact ha.1, by show (joinL p a.2 b.2).length = 8; rw [joinL_len]; exact ha.2.1, joinL_kinds hs h1 ha.2.2.1 hb.2.2.1, joinL_kinds hs (by rw [ha.2.1, hb.2.1]) ha.2.2.2 hb.2.2.2⟩
def hgtS (p : Prg) (s : Sta) : Nat := hgtL p s.1 + hgtL p s.2
theorem hgtS_lt {p : Prg} (hs : OkS p) {a b : Sta} (h : leS p a b = true) (ha : okSt p a) (hn : leS p b a = false) : hgtS p b < hgtS p a := by
  obtain ⟨h1, h2⟩ := leS_iff.1 h
  rw [okSt_iff] at ha
  unfold leS at hn
  rw [Bool.and_eq_false_iff] at hn
  have l1 := hgtL_le hs h1
  have l2 := hgtL_le hs h2
  unfold hgtS
  rcases hn with hn | hn
  · have := hgtL_lt hs h1 ha.2.2.1 hn; omega
  · have := hgtL_lt hs h2 ha.2.2.2 hn; omega
theorem hgtS_top {p : Prg} (hs : OkS p) {s : Sta} (h : okSt p s) : hgtS p s ≤ 144 := by
  rw [okSt_iff] at h
  have := hgtL_top hs s.1
  have := hgtL_top hs s.2
  unfold hgtS
  omega
/-- A fresh one does not fit what was found: what both make is more. -/
theorem join_more {p : Prg} (hs : OkS p) {a b : Sta} (ha : okSt p a) (hb : okSt p b) (h1 : a.1.length = b.1.length) (hn : leS p b a = false) : hgtS p (joinS p a b) < hgtS p a := by
  have h2 : a.2.length = b.2.length := by rw [okSt_iff] at ha hb; rw [ha.2.1, hb.2.1]
  refine hgtS_lt hs (joinS_left hs h1 h2) ha ?_
  cases h : leS p (joinS p a b) a
  · rfl
  · rw [leS_trans hs (joinS_right hs h1 h2) h] at hn; cases hn
end Pg
end Go.Proofs.YtkcbbpfclfncpaaDoor

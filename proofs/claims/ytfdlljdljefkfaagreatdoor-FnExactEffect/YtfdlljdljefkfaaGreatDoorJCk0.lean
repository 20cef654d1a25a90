/- Facts on who is above whom, of plain functions alone. -/
import Derived.Test.YtfdlljdljefkfaaGreatDoorJHi0
namespace Go.Proofs.YtfdlljdljefkfaaGreatDoor
namespace Pg
open Go.ChangeShapes Go.WideShapes Go.ChangeAt Go.RowKit St

theorem upF_falls {p : Prg} (hs : SupOk p p.length) : ∀ (f : Nat) (c : Int), (upF p f c).Pairwise (· > ·) := by
  intro f
  induction f with
  | zero => intro c; simp [upF]
  | succ f ih =>
    intro c
    simp only [upF]
    split
    · simp
    · split
      · simp
      · rename_i hc k hk
        have h1 := (List.getElem?_eq_some_iff.1 hk).1
        have h2 := hs _ k h1 hk
        refine List.pairwise_cons.2 ⟨fun y hy => ?_, ih _⟩
        have := upF_le hs f _ y hy
        omega
theorem upL_falls {p : Prg} (hs : SupOk p p.length) (c : Int) : (upL p c).Pairwise (· > ·) := upF_falls hs 6 c
theorem upL_past {p : Prg} {c : Int} (h : (p.length : Int) ≤ c) : upL p c = [] := by
  show upF p 6 c = []
  simp only [upF]
  split
  · rfl
  · have : p[c.toNat]? = none := List.getElem?_eq_none (by omega)
    rw [this]
theorem upL_tail {p : Prg} (hs : SupOk p p.length) (h6 : p.length ≤ 6) : ∀ (n : Nat) (a : Nat), a < n → a < p.length → ∀ x, x ∈ upL p (a : Int) → ∃ pre, upL p (a : Int) = pre ++ upL p x := by
  intro n
  induction n with
  | zero => intro a h; omega
  | succ n ih =>
    intro a ha hal x hx
    have e := upL_step hs hal (by omega) (List.getElem?_eq_getElem hal)
    rw [e] at hx
    rcases List.mem_cons.1 hx with rfl | hx
    · exact ⟨[], rfl⟩
    · have h2 := hs a p[a] hal (List.getElem?_eq_getElem hal)
      by_cases h0 : p[a].super < 0
      · rw [upL_neg p h0] at hx; simp at hx
      · obtain ⟨s, hse⟩ := Int.eq_ofNat_of_zero_le (show 0 ≤ p[a].super by omega)
        rw [hse] at hx h2
        obtain ⟨pre, hp⟩ := ih s (by omega) (by omega) x hx
        exact ⟨(a : Int) :: pre, by rw [e, hse, hp]; rfl⟩
theorem upL_chain {p : Prg} (hs : SupOk p p.length) (h6 : p.length ≤ 6) {a x y : Int} (hx : x ∈ upL p a) (hy : y ∈ upL p a) (hle : y ≤ x) : y ∈ upL p x := by
  by_cases h0 : a < 0
  · rw [upL_neg p h0] at hx; simp at hx
  by_cases h1 : (p.length : Int) ≤ a
  · rw [upL_past h1] at hx; simp at hx
  obtain ⟨n, rfl⟩ := Int.eq_ofNat_of_zero_le (show 0 ≤ a by omega)
  obtain ⟨pre, hp⟩ := upL_tail hs h6 (n + 1) n (by omega) (by omega) x hx
  have hf := upL_falls hs (n : Int)
  rw [hp] at hy hf
  rcases List.mem_append.1 hy with hy | hy
  · have := (List.pairwise_append.1 hf).2.2 y hy x ?_
    · omega
    · have hm := upL_mem hx
      obtain ⟨m, rfl⟩ := Int.eq_ofNat_of_zero_le hm.1
      exact upL_self hs h6 (by omega)
  · exact hy
/-- The first of a falling list that is in another is the greatest that both have. -/
theorem find_top {l l' : List Int} (hl : l.Pairwise (· > ·)) {x : Int} (h : l.find? (fun x => decide (x ∈ l')) = some x) : x ∈ l ∧ x ∈ l' ∧ ∀ y ∈ l, y ∈ l' → y ≤ x := by
  induction l with
  | nil => simp at h
  | cons z l ih =>
    obtain ⟨h1, h2⟩ := List.pairwise_cons.1 hl
    rw [List.find?_cons] at h
    by_cases hz : z ∈ l'
    · simp [hz] at h
      subst h
      refine ⟨by simp, hz, fun y hy _ => ?_⟩
      rcases List.mem_cons.1 hy with rfl | hy
      · exact Int.le_refl _
      · have := h1 y hy; omega
    · simp [hz] at h
      obtain ⟨k1, k2, k3⟩ := ih h2 (by simpa using h)
      refine ⟨List.mem_cons_of_mem _ k1, k2, fun y hy hy' => ?_⟩
      rcases List.mem_cons.1 hy with rfl | hy
      · exact absurd hy' hz
      · exact k3 y hy hy'
theorem lowF_some {p : Prg} (hs : SupOk p p.length) {a b y : Int} (h1 : y ∈ upL p a) (h2 : y ∈ upL p b) : lowF p a b ∈ upL p a ∧ lowF p a b ∈ upL p b ∧ ∀ z ∈ upL p a, z ∈ upL p b → z ≤ lowF p a b := by
  cases hf : (upL p a).find? fun x => undB p b x with
  | none =>
    have := List.find?_eq_none.1 hf y h1
    simp [undB, h2] at this
  | some x =>
    have e : lowF p a b = x := by unfold lowF; rw [hf]; rfl
    rw [e]
    exact find_top (upL_falls hs a) hf
theorem lowF_none {p : Prg} {a b : Int} (h : ∀ y ∈ upL p a, ¬ y ∈ upL p b) : lowF p a b = -1 := by
  unfold lowF
  rw [List.find?_eq_none.2 (fun x hx => by simpa [undB] using h x hx)]; rfl
end Pg
end Go.Proofs.YtfdlljdljefkfaaGreatDoor

/- Kinds, as plain functions. -/
namespace Go.Proofs.YtfdlljdljefkfaaGreatDoor
namespace Pg
open Go.ChangeShapes Go.WideShapes Go.ChangeAt Go.RowKit St

/-- Of kinds of a right program. -/
def fitB (p : Prg) (a b : Int) : Bool := decide (a = b) || decide (b = -3) || (decide (a = -2) && decide (0 ≤ b)) || (decide (0 ≤ a) && decide (0 ≤ b) && undB p a b)
def joinF (p : Prg) (a b : Int) : Int :=
  if fitB p a b then b else if fitB p b a then a else if 0 ≤ a ∧ 0 ≤ b then (if 0 ≤ lowF p a b then lowF p a b else -3) else -3
/-- A kind where there are so many classes. -/
def kindB (n : Nat) (t : Int) : Bool := decide (-3 ≤ t) && decide (t < (n : Int))
end Pg
end Go.Proofs.YtfdlljdljefkfaaGreatDoor

/- Kinds and states of kinds: the order, its joins and its height. -/
namespace Go.Proofs.YtfdlljdljefkfaaGreatDoor
namespace Pg
open Go.ChangeShapes Go.WideShapes Go.ChangeAt Go.RowKit St

/-- What makes the kinds of a program an order. -/
structure OkS (p : Prg) : Prop where
  sup : SupOk p p.length
  six : p.length ≤ 6
theorem kind_bd {n : Nat} {t : Int} (h : kindB n t = true) : -3 ≤ t ∧ t < (n : Int) := by
  simpa [kindB] using h
theorem kind_of {n : Nat} {t : Int} (h0 : -3 ≤ t) (h1 : t < (n : Int)) : kindB n t = true := by simp [kindB, h0, h1]
theorem und_self {p : Prg} (h : OkS p) {a : Int} (h0 : 0 ≤ a) (h1 : a < (p.length : Int)) : a ∈ upL p a := by
  obtain ⟨n, rfl⟩ := Int.eq_ofNat_of_zero_le h0
  exact upL_self h.sup h.six (by omega)
theorem und_trans {p : Prg} (h : OkS p) {a b c : Int} (h1 : b ∈ upL p a) (h2 : c ∈ upL p b) : c ∈ upL p a := by
  by_cases h0 : a < 0
  · rw [upL_neg p h0] at h1; simp at h1
  by_cases h3 : (p.length : Int) ≤ a
  · rw [upL_past h3] at h1; simp at h1
  obtain ⟨n, rfl⟩ := Int.eq_ofNat_of_zero_le (show 0 ≤ a by omega)
  obtain ⟨pre, e⟩ := upL_tail h.sup h.six (n + 1) n (by omega) (by omega) b h1
  rw [e]
  exact List.mem_append_right _ h2
theorem fit_iff (p : Prg) (a b : Int) : fitB p a b = true ↔ a = b ∨ b = -3 ∨ (a = -2 ∧ 0 ≤ b) ∨ (0 ≤ a ∧ 0 ≤ b ∧ b ∈ upL p a) := by
  simp only [fitB, undB, Bool.or_eq_true, Bool.and_eq_true, decide_eq_true_eq]
  constructor
  · rintro (((h | h) | h) | h)
    · exact .inl h
    · exact .inr (.inl h)
    · exact .inr (.inr (.inl h))
    · exact .inr (.inr (.inr ⟨h.1.1, h.1.2, h.2⟩))
  · rintro (h | h | h | h)
    · exact .inl (.inl (.inl h))
    · exact .inl (.inl (.inr h))
    · exact .inl (.inr h)
    · exact .inr ⟨⟨h.1, h.2.1⟩, h.2.2⟩
theorem fit_refl (p : Prg) (a : Int) : fitB p a a = true := (fit_iff p a a).2 (.inl rfl)
theorem fit_trans {p : Prg} (hs : OkS p) {a b c : Int} (h1 : fitB p a b = true) (h2 : fitB p b c = true) : fitB p a c = true := by
  rw [fit_iff] at *
  rcases h1 with rfl | rfl | ⟨rfl, h1⟩ | ⟨h1, h1', h1''⟩
  · exact h2
  · rcases h2 with h2 | h2 | h2 | h2
    · exact .inr (.inl h2.symm)
    · exact .inr (.inl h2)
    · omega
    · omega
  · rcases h2 with rfl | h2 | h2 | h2
    · exact .inr (.inr (.inl ⟨rfl, h1⟩))
    · exact .inr (.inl h2)
    · omega
    · exact .inr (.inr (.inl ⟨rfl, h2.2.1⟩))
  · rcases h2 with rfl | h2 | h2 | h2
    · exact .inr (.inr (.inr ⟨h1, h1', h1''⟩))
    · exact .inr (.inl h2)
    · omega
    · exact .inr (.inr (.inr ⟨h1, h2.2.1, und_trans hs h1'' h2.2.2⟩))
theorem fit_anti {p : Prg} (hs : OkS p) {a b : Int} (h1 : fitB p a b = true) (h2 : fitB p b a = true) : a = b := by
  rw [fit_iff] at *
  rcases h1 with h1 | rfl | ⟨rfl, h1⟩ | ⟨h1, h1', h1''⟩
  · exact h1
  · rcases h2 with h2 | h2 | h2 | h2 <;> omega
  · rcases h2 with h2 | h2 | h2 | h2 <;> omega
  · rcases h2 with h2 | h2 | h2 | h2
    · omega
    · omega
    · omega
    · have := upL_le hs.sup h1''
      have := upL_le hs.sup h2.2.2
      omega
theorem join_flip {p : Prg} (hs : OkS p) (a b : Int) : joinF p a b = joinF p b a := by
  unfold joinF
  by_cases h1 : fitB p a b = true <;> by_cases h2 : fitB p b a = true
  · rw [if_pos h1, if_pos h2]; exact (fit_anti hs h1 h2).symm
  · rw [if_pos h1, if_neg h2, if_pos h1]
  · rw [if_neg h1, if_pos h2, if_pos h2]
  · rw [if_neg h1, if_neg h2, if_neg h2, if_neg h1]
    have e : lowF p a b = lowF p b a := by
      by_cases h : ∃ y, y ∈ upL p a ∧ y ∈ upL p b
      · obtain ⟨y, h1, h2⟩ := h
        obtain ⟨k1, k2, k3⟩ := lowF_some hs.sup h1 h2
        obtain ⟨m1, m2, m3⟩ := lowF_some hs.sup h2 h1
        have := k3 _ m2 m1
        have := m3 _ k2 k1
        omega
      · rw [lowF_none (fun y h1 h2 => h ⟨y, h1, h2⟩), lowF_none (fun y h1 h2 => h ⟨y, h2, h1⟩)]
    rw [e]
    by_cases h3 : 0 ≤ a <;> by_cases h4 : 0 ≤ b <;> simp [h3, h4]
theorem join_left {p : Prg} (hs : OkS p) (a b : Int) : fitB p a (joinF p a b) = true := by
  unfold joinF
  by_cases h1 : fitB p a b = true
  · rw [if_pos h1]; exact h1
  · by_cases h2 : fitB p b a = true
    · rw [if_neg h1, if_pos h2]; exact fit_refl p a
    · rw [if_neg h1, if_neg h2]
      split
      · rename_i h3
        split
        · rename_i h4
          by_cases h : ∃ y, y ∈ upL p a ∧ y ∈ upL p b
          · obtain ⟨y, k1, k2⟩ := h
            obtain ⟨m1, m2, _⟩ := lowF_some hs.sup k1 k2
            exact (fit_iff _ _ _).2 (.inr (.inr (.inr ⟨h3.1, h4, m1⟩)))
          · rw [lowF_none (fun y h1 h2 => h ⟨y, h1, h2⟩)] at h4; omega
        · exact (fit_iff _ _ _).2 (.inr (.inl rfl))
      · exact (fit_iff _ _ _).2 (.inr (.inl rfl))
theorem join_right {p : Prg} (hs : OkS p) (a b : Int) : fitB p b (joinF p a b) = true := by
  rw [join_flip hs]; exact join_left hs b a
theorem join_least {p : Prg} (hs : OkS p) {a b c : Int} (h1 : fitB p a c = true) (h2 : fitB p b c = true) : fitB p (joinF p a b) c = true := by
  unfold joinF
  by_cases k1 : fitB p a b = true
  · rw [if_pos k1]; exact h2
  · by_cases k2 : fitB p b a = true
    · rw [if_neg k1, if_pos k2]; exact h1
    · rw [if_neg k1, if_neg k2]
      by_cases hc : c = -3
      · exact (fit_iff _ _ _).2 (.inr (.inl hc))
      · have q1 := (fit_iff p a c).1 h1
        have q2 := (fit_iff p b c).1 h2
        rcases q1 with rfl | q1 | ⟨rfl, q1⟩ | ⟨q1, q1', q1''⟩
        · exact absurd h2 k2
        · omega
        · rcases q2 with rfl | q2 | ⟨rfl, q2⟩ | ⟨q2, q2', q2''⟩
          · exact absurd h1 k1
          · omega
          · exact absurd (fit_refl p _) k1
          · exact absurd ((fit_iff _ _ _).2 (.inr (.inr (.inl ⟨rfl, q2⟩)))) k1
        · rcases q2 with rfl | q2 | ⟨rfl, q2⟩ | ⟨q2, q2', q2''⟩
          · exact absurd h1 k1
          · omega
          · exact absurd ((fit_iff _ _ _).2 (.inr (.inr (.inl ⟨rfl, q1⟩)))) k2
          · obtain ⟨m1, m2, m3⟩ := lowF_some hs.sup q1'' q2''
            have hm := upL_mem m1
            rw [if_pos ⟨q1, q2⟩, if_pos hm.1]
            exact (fit_iff _ _ _).2 (.inr (.inr (.inr ⟨hm.1, q1', upL_chain hs.sup hs.six m1 q1'' (m3 c q1'' q2'')⟩)))
theorem join_kind {p : Prg} (hs : OkS p) {a b : Int} (ha : kindB p.length a = true) (hb : kindB p.length b = true) : kindB p.length (joinF p a b) = true := by
  obtain ⟨a0, a1⟩ := kind_bd ha
  obtain ⟨b0, b1⟩ := kind_bd hb
  unfold joinF
  repeat' split
  · exact hb
  · exact ha
  · rename_i h1 h2 h3 h4
    by_cases h : ∃ y, y ∈ upL p a ∧ y ∈ upL p b
    · obtain ⟨y, k1, k2⟩ := h
      obtain ⟨m1, _, _⟩ := lowF_some hs.sup k1 k2
      have := upL_mem m1
      exact kind_of (by omega) (by omega)
    · rw [lowF_none (fun y h1 h2 => h ⟨y, h1, h2⟩)] at h4; omega
  · exact kind_of (by omega) (by omega)
  · exact kind_of (by omega) (by omega)

/-- All kinds of a program. -/
def kindsL (p : Prg) : List Int := [-3, -2, -1] ++ allC p
theorem kinds_mem {p : Prg} {t : Int} (h : kindB p.length t = true) : t ∈ kindsL p := by
  obtain ⟨h0, h1⟩ := kind_bd h
  unfold kindsL
  by_cases hn : 0 ≤ t
  · obtain ⟨n, rfl⟩ := Int.eq_ofNat_of_zero_le hn
    exact List.mem_append_right _ (List.mem_map.2 ⟨n, List.mem_range.2 (by omega), rfl⟩)
  · have : t = -3 ∨ t = -2 ∨ t = -1 := by omega
    rcases this with rfl | rfl | rfl <;> simp
/-- How many are above a kind, and itself. -/
def hgt (p : Prg) (t : Int) : Nat := (kindsL p).countP (fitB p t)
theorem count_le {l : List Int} {f g : Int → Bool} (h : ∀ x ∈ l, f x = true → g x = true) : l.countP f ≤ l.countP g := by
  induction l with
  | nil => simp
  | cons x l ih =>
    rw [List.countP_cons, List.countP_cons]
    have := ih (fun y hy => h y (List.mem_cons_of_mem _ hy))
    have h2 := h x (List.mem_cons_self ..)
    by_cases hf : f x = true
    · rw [if_pos hf, if_pos (h2 hf)]; omega
    · rw [if_neg hf]; omega
theorem count_lt {l : List Int} {f g : Int → Bool} (h : ∀ x ∈ l, f x = true → g x = true) {y : Int} (hy : y ∈ l) (hf : f y = false) (hg : g y = true) : l.countP f < l.countP g := by
  induction l with
  | nil => simp at hy
  | cons x l ih =>
    rw [List.countP_cons, List.countP_cons]
    have h1 : ∀ x ∈ l, f x = true → g x = true := fun z hz => h z (List.mem_cons_of_mem _ hz)
    rcases List.mem_cons.1 hy with rfl | hy
    · have := count_le h1
      rw [hf, hg]
      simp; omega
    · have := ih h1 hy
      have h2 := h x (List.mem_cons_self ..)
      by_cases hf : f x = true
      · rw [if_pos hf, if_pos (h2 hf)]; omega
      · rw [if_neg hf]; omega
theorem hgt_le {p : Prg} (hs : OkS p) {a b : Int} (h : fitB p a b = true) : hgt p b ≤ hgt p a := count_le fun _ _ hx => fit_trans hs h hx
theorem hgt_lt {p : Prg} (hs : OkS p) {a b : Int} (ha : kindB p.length a = true) (h : fitB p a b = true) (hn : fitB p b a = false) : hgt p b < hgt p a :=
  count_lt (fun _ _ hx => fit_trans hs h hx) (kinds_mem ha) hn (fit_refl p a)
theorem hgt_top {p : Prg} (hs : OkS p) (a : Int) : hgt p a ≤ 9 := by
  unfold hgt
  refine Nat.le_trans (List.countP_le_length) ?_
  have := hs.six
  simp [kindsL, allC]; omega
end Pg
end Go.Proofs.YtfdlljdljefkfaaGreatDoor

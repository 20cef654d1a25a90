/- Facts on who is above whom, of plain functions alone. -/
import Derived.Test.YtkcbbpfclfncpaaDoorHi0
namespace Go.Proofs.YtkcbbpfclfncpaaDoor
namespace Pg
open Go.ChangeShapes Go.WideShapes Go.ChangeAt Go.RowKit St

theorem upF_falls {p : Prg} (hs : SupOk p p.length) : ∀ (f : Nat) (c : Int), (upF p f c).Pairwise (· > ·) := by
  intro f
  induction f with
  | zero => intro c; simp [upF]
  | succ f ih =>
    intro c
    simp only [upF]
    split
    · simp
    · split
      · simp
      · rename_i hc k hk
        have h1 := (List.getElem?_eq_some_iff.1 hk).1
        have h2 := hs _ k h1 hk
        refine List.pairwise_cons.2 ⟨fun y hy => ?_, ih _⟩
        have := upF_le hs f _ y hy
        omega
theorem upL_falls {p : Prg} (hs : SupOk p p.length) (c : Int) : (upL p c).Pairwise (· > ·) := upF_falls hs 6 c
theorem upL_past {p : Prg} {c : Int} (h : (p.length : Int) ≤ c) : upL p c = [] := by
  show upF p 6 c = []
  simp only [upF]
  split
  · rfl
  · have : p[c.toNat]? = none := List.getElem?_eq_none (by omega)
    rw [this]
theorem upL_tail {p : Prg} (hs : SupOk p p.length) (h6 : p.length ≤ 6) : ∀ (n : Nat) (a : Nat), a < n → a < p.length → ∀ x, x ∈ upL p (a : Int) → ∃ pre, upL p (a : Int) = pre ++ upL p x := by
  intro n
  induction n with
  | zero => intro a h; omega
  | succ n ih =>
    intro a ha hal x hx
    have e := upL_step hs hal (by omega) (List.getElem?_eq_getElem hal)
    rw [e] at hx
    rcases List.mem_cons.1 hx with rfl | hx
    · exact ⟨[], rfl⟩
    · have h2 := hs a p[a] hal (List.getElem?_eq_getElem hal)
      by_cases h0 : p[a].super < 0
      · rw [upL_neg p h0] at hx; simp at hx
      · obtain ⟨s, hse⟩ := Int.eq_ofNat_of_zero_le (show 0 ≤ p[a].super by omega)
        rw [hse] at hx h2
        obtain ⟨pre, hp⟩ := ih s (by omega) (by omega) x hx
        exact ⟨(a : Int) :: pre, by rw [e, hse, hp]; rfl⟩
theorem upL_chain {p : Prg} (hs : SupOk p p.length) (h6 : p.length ≤ 6) {a x y : Int} (hx : x ∈ upL p a) (hy : y ∈ upL p a) (hle : y ≤ x) : y ∈ upL p x := by
  by_cases h0 : a < 0
  · rw [upL_neg p h0] at hx; simp at hx
  by_cases h1 : (p.length : Int) ≤ a
  · rw [upL_past h1] at hx; simp at hx
  obtain ⟨n, rfl⟩ := Int.eq_ofNat_of_zero_le (show 0 ≤ a by omega)
  obtain ⟨pre, hp⟩ := upL_tail hs h6 (n + 1) n (by omega) (by omega) x hx
  have hf := upL_falls hs (n : Int)
  rw [hp] at hy hf
  rcases List.mem_append.1 hy with hy | hy
  · have := (List.pairwise_append.1 hf).2.2 y hy x ?_
    · omega
    · have hm := upL_mem hx
      obtain ⟨m, rfl⟩ := Int.eq_ofNat_of_zero_le hm.1
      exact upL_self hs h6 (by omega)
  · exact hy
/-- The first of a falling list that is in another is the greatest that both have. -/
theorem find_top {l l' : List Int} (hl : l.Pairwise (· > ·)) {x : Int} (h : l.find? (fun x => decide (x ∈ l')) = some x) : x ∈ l ∧ x ∈ l' ∧ ∀ y ∈ l, y ∈ l' → y ≤ x := by
  induction l with
  | nil => simp at h
  | cons z l ih =>
    obtain ⟨h1, h2⟩ := List.pairwise_cons.1 hl
    rw [List.find?_cons] at h
    by_cases hz : z ∈ l'
    · simp [hz] at h
      subst h
      refine ⟨by simp, hz, fun y hy _ => ?_⟩
      rcases List.mem_cons.1 hy with rfl | hy
      · exact Int.le_refl _
      · have := h1 y hy; omega
    · simp [hz] at h
      obtain ⟨k1, k2, k3⟩ := ih h2 (by simpa using h)
      refine ⟨List.mem_cons_of_mem _ k1, k2, fun y hy hy' => ?_⟩
      rcases List.mem_cons.1 hy with rfl | hy
      · exact absurd hy' hz
      · exact k3 y hy hy'
theorem lowF_some {p : Prg} (hs : SupOk p p.length) {a b y : Int} (h1 : y ∈ upL p a) (h2 : y ∈ upL p b) : lowF p a b ∈ upL p a ∧ lowF p a b ∈ upL p b ∧ ∀ z ∈ upL p a, z ∈ upL p b → z ≤ lowF p a b := by
  cases hf : (upL p a).find? fun x => undB p b x with
  | none =>
    have := List.find?_eq_none.1 hf y h1
    simp [undB, h2] at this
  | some x =>
    have e : lowF p a b = x := by unfold lowF; rw [hf]; rfl
    rw [e]
    exact find_top (upL_falls hs a) hf
theorem lowF_none {p : Prg} {a b : Int} (h : ∀ y ∈ upL p a, ¬ y ∈ upL p b) : lowF p a b = -1 := by
  unfold lowF
  rw [List.find?_eq_none.2 (fun x hx => by simpa [undB] using h x hx)]; rfl
end Pg
end Go.Proofs.YtkcbbpfclfncpaaDoor

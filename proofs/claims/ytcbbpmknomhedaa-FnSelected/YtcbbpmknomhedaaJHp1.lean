/- Facts on what is selected, and on the targets below a class. -/
import Derived.Test.YtcbbpmknomhedaaJPcm
import Derived.Test.YtcbbpmknomhedaaJHi5
namespace Go.Proofs.Ytcbbpmknomhedaa
namespace Pg
open Go.ChangeShapes Go.WideShapes Go.ChangeAt Go.RowKit St

theorem targ_rise (p : Prg) (c n : Int) : Rise (targA p c n) := by
  unfold targA
  split
  · rw [targL_eq]; exact (foldl_put _ [] (by simp)).1
  · simp
theorem targ_rises (p : Prg) (c n : Int) : ∀ k x y, (targA p c n)[k]? = some x → (targA p c n)[k + 1]? = some y → x < y := by
  intro k x y hx hy
  obtain ⟨h1, rfl⟩ := List.getElem?_eq_some_iff.1 hx
  obtain ⟨h2, rfl⟩ := List.getElem?_eq_some_iff.1 hy
  exact (List.pairwise_iff_getElem.1 (targ_rise p c n)) k (k + 1) h1 h2 (by omega)
theorem targL_memI (p : Prg) (c n x : Int) : x ∈ targL p c n ↔ 0 ≤ x ∧ ∃ i ∈ downL p c, selF p i n = x := by
  rw [targL_eq, (foldl_put _ [] (by simp)).2 x]
  simp only [selsL, List.not_mem_nil, or_false, List.mem_filter, List.mem_map, decide_eq_true_eq]
  constructor
  · rintro ⟨⟨i, hi, rfl⟩, h0⟩; exact ⟨h0, i, hi, rfl⟩
  · rintro ⟨h0, i, hi, rfl⟩; exact ⟨⟨i, hi, rfl⟩, h0⟩
theorem down_in {p : Prg} {c i : Int} (h : i ∈ downA p c) : (okP p = true ∧ 0 ≤ c ∧ c < (p.length : Int)) ∧ (0 ≤ i ∧ i < (p.length : Int)) ∧ c ∈ upL p i ∧ i ∈ downL p c := by
  unfold downA at h
  split at h
  · rename_i hok
    refine ⟨okIn hok, ?_, ?_, h⟩
    · obtain ⟨h1, _⟩ := List.mem_filter.1 h
      obtain ⟨k, hk, rfl⟩ := List.mem_map.1 h1
      have := List.mem_range.1 hk
      omega
    · have := (List.mem_filter.1 h).2
      simpa [undB] using this
  · simp at h
theorem sel_at {p : Prg} {i : Int} (n : Int) (h : okP p = true) (h0 : 0 ≤ i) (h1 : i < (p.length : Int)) : selA p i n = selF p i n := by
  unfold selA
  have : inB p i = true := by simp [inB]; omega
  rw [h, this]; rfl
/-- What one below selects is a target. -/
theorem sel_targ {p : Prg} {c n i : Int} (hi : i ∈ downA p c) (hx : ¬ selA p i n < 0) : selA p i n ∈ targA p c n := by
  obtain ⟨⟨hok, c0, c1⟩, ⟨i0, i1⟩, _, hd⟩ := down_in hi
  rw [sel_at n hok i0 i1] at hx ⊢
  have hc : inB p c = true := by simp [inB]; omega
  unfold targA
  rw [hok, hc]
  exact (targL_memI p c n _).2 ⟨by omega, i, hd, rfl⟩
theorem selF_yes {p : Prg} {c n x : Int} (hx : x ∈ upL p c) (hm : hasM p n x = true) : 0 ≤ selF p c n := by
  unfold selF
  cases h : (upL p c).find? (hasM p n) with
  | none => exact absurd hm (List.find?_eq_none.1 h x hx)
  | some y => exact (upL_mem (List.mem_of_find?_eq_some h)).1
theorem selF_in {p : Prg} {c n : Int} (h : ¬ selF p c n < 0) : selF p c n ∈ upL p c ∧ hasM p n (selF p c n) = true := by
  unfold selF at h ⊢
  cases hf : (upL p c).find? (hasM p n) with
  | none => rw [hf] at h; exact absurd (by decide) h
  | some y => exact ⟨List.mem_of_find?_eq_some hf, List.find?_some hf⟩
/-- Where a class selects, those below it do. -/
theorem sel_below {p : Prg} {c n i : Int} (hi : i ∈ downA p c) (hs : ¬ selA p c n < 0) : ¬ selA p i n < 0 := by
  obtain ⟨⟨hok, c0, c1⟩, ⟨i0, i1⟩, hu, _⟩ := down_in hi
  rw [sel_at n hok c0 c1] at hs
  rw [sel_at n hok i0 i1]
  obtain ⟨h1, h2⟩ := selF_in hs
  obtain ⟨k, rfl⟩ := Int.eq_ofNat_of_zero_le i0
  obtain ⟨pre, hp⟩ := upL_tail (okP_sup hok) (okP_len hok).2 (k + 1) k (by omega) (by omega) c hu
  have h3 : selF p c n ∈ upL p (k : Int) := by rw [hp]; exact List.mem_append_right _ h1
  have := selF_yes h3 h2
  omega
theorem sel_ok {p : Prg} {c n : Int} (hs : ¬ selA p c n < 0) : (okP p = true ∧ 0 ≤ c ∧ c < (p.length : Int)) ∧ selA p c n = selF p c n := by
  unfold selA at hs ⊢
  by_cases h : (okP p && inB p c) = true
  · rw [if_pos h]; exact ⟨okIn h, rfl⟩
  · rw [if_neg h] at hs; exact absurd (by decide) hs
theorem hasM_meth {p : Prg} {n x : Int} (hok : okP p = true) (h0 : 0 ≤ x) (h1 : x < (p.length : Int)) : (methF p x n).isSome = hasM p n x := by
  unfold methF hasM
  have : inB p x = true := by simp [inB]; omega
  rw [hok, this]
  simp only [Bool.and_self, if_true]
  cases p[x.toNat]? <;> rfl
/-- What is selected has a method of its own. -/
theorem sel_own {p : Prg} {c n : Int} (hs : ¬ selA p c n < 0) : (methF p (selA p c n) n).isSome = true := by
  obtain ⟨⟨hok, _, _⟩, e⟩ := sel_ok hs
  rw [e] at hs ⊢
  obtain ⟨h1, h2⟩ := selF_in hs
  have := upL_mem h1
  rw [hasM_meth hok this.1 this.2, h2]
theorem sel_up {p : Prg} {c n : Int} (hs : ¬ selA p c n < 0) : selA p c n ∈ upA p c := by
  obtain ⟨⟨hok, c0, c1⟩, e⟩ := sel_ok hs
  rw [e] at hs ⊢
  have hc : inB p c = true := by simp [inB]; omega
  unfold upA
  rw [hok, hc]
  exact (selF_in hs).1
theorem sel_self {p : Prg} {c n : Int} (hs : ¬ selA p c n < 0) : selA p c n ∈ targA p c n := by
  obtain ⟨⟨hok, c0, c1⟩, _⟩ := sel_ok hs
  refine sel_targ ?_ hs
  have hc : inB p c = true := by simp [inB]; omega
  obtain ⟨k, rfl⟩ := Int.eq_ofNat_of_zero_le c0
  unfold downA
  rw [hok, hc]
  have h1 := upL_self (okP_sup hok) (okP_len hok).2 (u := k) (by omega)
  exact List.mem_filter.2 ⟨List.mem_map.2 ⟨k, List.mem_range.2 (by omega), rfl⟩, by simpa [undB] using h1⟩
theorem find_ahead {f : Int → Bool} : ∀ (l : List Int) (s : Int), l.find? f = some s → ∀ k x, l[k]? = some x → s ∉ l.take k → x ≠ s → f x = false := by
  intro l
  induction l with
  | nil => intro s h; simp at h
  | cons y l ih =>
    intro s h k x hk hno hne
    rw [find_step] at h
    by_cases hy : f y = true
    · rw [if_pos hy] at h
      injection h with h
      subst h
      cases k with
      | zero => simp at hk; exact absurd hk.symm hne
      | succ k => simp at hno
    · rw [if_neg hy] at h
      cases k with
      | zero => simp at hk; subst hk; simpa using hy
      | succ k =>
        simp at hk
        exact ih s h k x hk (fun hm => hno (by simp [hm])) hne
/-- None of those ahead of what is selected has a method of its own. -/
theorem sel_first {p : Prg} {c n : Int} (hs : ¬ selA p c n < 0) {k : Nat} {x : Int} (hx : (upA p c)[k]? = some x) (hno : selA p c n ∉ (upA p c).take k) (hne : x ≠ selA p c n) : methF p x n = none := by
  obtain ⟨⟨hok, c0, c1⟩, e⟩ := sel_ok hs
  rw [e] at hs hno hne
  have hc : inB p c = true := by simp [inB]; omega
  have hu : upA p c = upL p c := by unfold upA; rw [hok, hc]; rfl
  rw [hu] at hx hno
  have hm := upL_mem (List.mem_of_getElem? hx)
  have hf : (upL p c).find? (hasM p n) = some (selF p c n) := by
    unfold selF at hs ⊢
    cases hf : (upL p c).find? (hasM p n) with
    | none => rw [hf] at hs; exact absurd (by decide) hs
    | some y => rfl
  have := find_ahead _ _ hf k x hx hno hne
  rw [← hasM_meth hok hm.1 hm.2] at this
  cases h : methF p x n with
  | none => rfl
  | some m => rw [h] at this; cases this
end Pg
end Go.Proofs.Ytcbbpmknomhedaa

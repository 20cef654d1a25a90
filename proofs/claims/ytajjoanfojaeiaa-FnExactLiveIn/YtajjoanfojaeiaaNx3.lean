/- Contracts: both sides' Nexts. -/
import Derived.Test.YtajjoanfojaeiaaNx2
namespace Go.Proofs.Ytajjoanfojaeiaa
namespace Pg
open Go.ChangeShapes Go.WideShapes Go.ChangeAt Go.RowKit St

/-- Is it a place of code that is right? -/
def atB (l : List Tx.Ins) (n : Int) : Bool := Lay.codeOk l && (decide (0 ≤ n) && decide (n < (l.length : Int)))
def nexA (l : List Tx.Ins) (n : Int) : List Int := if atB l n then risL (nxB l n.toNat) 40 else []
theorem nexA_len (l : List Tx.Ins) (n : Int) : (nexA l n).length ≤ 41 := by
  unfold nexA
  split
  · have := risL_len (nxB l n.toNat) 40; omega
  · simp
theorem nextsF_rise (code : List Tx.Ins) (k : Nat) : Rise (nextsF code k) := by
  unfold nextsF
  dsimp only
  have h : ∀ b : Bool, Rise (if b = true then [(k : Int) + 1] else []) := fun b => by cases b <;> simp
  by_cases hc : (insF code k).1 ≠ 11 ∧ (insF code k).1 ≠ 20 ∧ k + 1 < code.length
  · rw [if_pos hc]
    split
    · exact putL_rise (by simp) _
    · simp
  · rw [if_neg hc]
    split
    · exact putL_rise (by simp) _
    · simp
theorem nextsF_mem {code : List Tx.Ins} (hok : Lay.codeOk code = true) {k : Nat} (hk : k < code.length) (x : Int) : x ∈ nextsF code k ↔ ∃ j : Nat, nxB code k j = true ∧ x = (j : Int) := by
  have hj := fun h => jump_in hok hk h
  unfold nextsF nxB waysF
  dsimp only
  generalize insF code k = i at *
  obtain ⟨op, A, B⟩ := i
  dsimp only at *
  by_cases h20 : op = 20
  · subst h20; simp
  · by_cases h11 : op = 11
    · subst h11
      obtain ⟨a0, a1⟩ := hj (.inl rfl)
      simp [mem_putL]
      constructor
      · rintro rfl; exact ⟨x.toNat, by omega, by omega⟩
      · rintro ⟨j, h1, h2⟩; omega
    · by_cases h12 : op = 12
      · subst h12
        obtain ⟨a0, a1⟩ := hj (.inr rfl)
        by_cases hl : k + 1 < code.length
        · simp [mem_putL, hl]
          constructor
          · rintro (rfl | rfl)
            · exact ⟨k + 1, ⟨.inr rfl, hl⟩, by omega⟩
            · exact ⟨x.toNat, ⟨.inl rfl, by omega⟩, by omega⟩
          · rintro ⟨j, ⟨h1 | h1, h2⟩, h3⟩
            · right; omega
            · left; omega
        · simp [mem_putL, hl]
          constructor
          · rintro rfl; exact ⟨x.toNat, ⟨.inl rfl, by omega⟩, by omega⟩
          · rintro ⟨j, ⟨h1 | h1, h2⟩, h3⟩ <;> omega
      · by_cases hl : k + 1 < code.length
        · simp [h20, h11, h12, hl]
          constructor
          · rintro rfl; exact ⟨k + 1, ⟨rfl, hl⟩, by omega⟩
          · rintro ⟨j, ⟨h1, h2⟩, h3⟩; omega
        · simp [h20, h11, h12, hl]
theorem nexts_ris {code : List Tx.Ins} (hok : Lay.codeOk code = true) {k : Nat} (hk : k < code.length) : nextsF code k = risL (nxB code k) 40 := by
  have hl := (Lay.ok_len hok).2
  refine rise_ext (nextsF_rise code k) (risL_rise _ _) fun x => ?_
  rw [nextsF_mem hok hk, risL_mem]
  constructor
  · rintro ⟨j, h, e⟩
    refine ⟨j, ?_, h, e⟩
    unfold nxB at h
    simp only [Bool.and_eq_true, decide_eq_true_eq] at h
    omega
  · rintro ⟨j, _, h, e⟩; exact ⟨j, h, e⟩

set_option maxRecDepth 100000 in
set_option maxHeartbeats 1000000 in
theorem implNexts (g cap : Nat) (l : List Tx.Ins) (n : Int) (hl : l.length ≤ 1048576) (w : World) (hr : Row w g 0 l) :
    Calls Try.prog 11 #[.slice (some ⟨g, 0, none⟩) l.length cap, .int .i64 n] w fun e w' => ∃ x, e = .returned x ∧ GInt w.heap.size w' x (nexA l n) ∧ Below w.heap.size w w' := by
  have HR : Hid (Row w g 0 l) := hr
  clear hr
  go_enter Try.func11, Try.ntmps11
  go_wp2_with fail
  refine (implCodeOk g cap l hl w HR.out).mono ?_
  rintro e w1 ⟨rfl, hb1⟩
  cases hok : Lay.codeOk l
  · have HE : Hid (nexA l n = []) := by show _ = _; simp [nexA, atB, hok]
    clear hok
    go_wp2
    go_ret
    exact ⟨_, rfl, by rw [HE.out]; exact ((grow_start w1).base' hb1.size).gint, hb1.alloc hb1.size _⟩
  · go_wp2_with fail
    refine (isBelow n l.length w1).mono ?_
    rintro e _ ⟨rfl, rfl⟩
    cases hat : (decide (0 ≤ n) && decide (n < (l.length : Int)))
    · have HE : Hid (nexA l n = []) := by show _ = _; simp only [nexA, atB, hok, hat]; rfl
      clear hok
      go_wp2
      go_ret
      exact ⟨_, rfl, by rw [HE.out]; exact ((grow_start w1).base' hb1.size).gint, hb1.alloc hb1.size _⟩
    · have HE : Hid (nexA l n = risL (nxB l n.toNat) 40) := by show _ = _; simp only [nexA, atB, hok, hat]; rfl
      simp only [Bool.and_eq_true, decide_eq_true_eq] at hat
      obtain ⟨k, rfl⟩ := Int.eq_ofNat_of_zero_le hat.1
      have hk : k < l.length := by omega
      rw [Int.toNat_natCast] at HE
      clear hat
      go_wp2_with fail
      refine (nextsIn_at g cap l hok k hk w1 (HR.out.on hb1)).mono ?_
      rintro e w2 ⟨rfl, hb2⟩
      have hw2 : Below w.heap.size w w2 := below_over hb1 hb2
      clear hb1 hb2
      go_wp2_with fail
      refine (rising_at (nxB l k) w2).mono ?_
      rintro e w3 ⟨v, rfl, hg, hb3⟩
      have hw3 : Below w.heap.size w w3 := below_over hw2 hb3
      have HG : Hid (Grow w.heap.size w3 v (risL (nxB l k) 40)) := hg.base' hw2.size
      clear hg hb3 hok
      go_wp2
      go_ret
      exact ⟨_, rfl, by rw [HE.out]; exact HG.out.gint, hw3⟩
set_option maxRecDepth 100000 in
set_option maxHeartbeats 1000000 in
theorem l9At_at (g cap : Nat) (l : List Tx.Ins) (n : Int) (hl : l.length ≤ 1048576) (w : World) (hr : Row w g 0 l) :
    Calls Try.prog 25 #[.slice (some ⟨g, 0, none⟩) l.length cap, .int .i64 n] w fun e w' => e = .returned (.bool (atB l n)) ∧ Below w.heap.size w w' := by
  have HR : Hid (Row w g 0 l) := hr
  clear hr
  go_enter Try.func25, Try.ntmps25
  go_wp2_with fail
  refine (specCodeOk g cap l hl w HR.out).mono ?_
  rintro e w1 ⟨rfl, hb1⟩
  cases hok : Lay.codeOk l
  · have HE : Hid (atB l n = false) := by show _ = _; simp [atB, hok]
    clear hok
    go_wp2
    go_ret
    exact ⟨retB HE.out.symm, hb1⟩
  · by_cases h0 : 0 ≤ n
    · have HE : Hid (atB l n = decide (n < (l.length : Int))) := by show _ = _; simp [atB, hok, h0]
      clear hok
      go_wp2
      go_ret
      exact ⟨retB HE.out.symm, hb1⟩
    · have HE : Hid (atB l n = false) := by show _ = _; simp [atB, hok, h0]
      clear hok
      go_wp2
      go_ret
      exact ⟨retB HE.out.symm, hb1⟩
set_option maxRecDepth 100000 in
set_option maxHeartbeats 1000000 in
theorem specNexts (g cap : Nat) (l : List Tx.Ins) (n : Int) (hl : l.length ≤ 1048576) (w : World) (hr : Row w g 0 l) :
    Calls Try.prog 9 #[.slice (some ⟨g, 0, none⟩) l.length cap, .int .i64 n] w fun e w' => ∃ x, e = .returned x ∧ Lst w' x (nexA l n) ∧ Below w.heap.size w w' := by
  have HR : Hid (Row w g 0 l) := hr
  clear hr
  go_enter Try.func9, Try.ntmps9
  go_wp2_with fail
  refine (l9At_at g cap l n hl w HR.out).mono ?_
  rintro e w1 ⟨rfl, hb1⟩
  cases hat : atB l n
  · have HE : Hid (nexA l n = []) := by show _ = _; simp [nexA, hat]
    clear hat
    go_wp2
    go_ret
    exact ⟨_, rfl, by rw [HE.out]; exact (grow_start w1).lst, hb1.alloc hb1.size _⟩
  · have HE : Hid (nexA l n = risL (nxB l n.toNat) 40) := by show _ = _; simp [nexA, hat]
    unfold atB at hat
    simp only [Bool.and_eq_true, decide_eq_true_eq] at hat
    obtain ⟨hok, h0, h1⟩ := hat
    obtain ⟨k, rfl⟩ := Int.eq_ofNat_of_zero_le h0
    have hk : k < l.length := by omega
    rw [Int.toNat_natCast, ← nexts_ris hok hk] at HE
    have h1000 : l.length ≤ 1000 := by have := (Lay.ok_len hok).2; omega
    go_wp2_with fail
    refine (l9Nexts_at g cap l h1000 k hk w1 (HR.out.on hb1)).mono ?_
    rintro e w2 ⟨v, rfl, hls, hb2⟩
    have hw2 : Below w.heap.size w w2 := below_over hb1 hb2
    have HL : Hid (Lst w2 v (nextsF l k)) := hls
    clear hb1 hb2 hls hok
    go_wp2
    go_ret
    exact ⟨_, rfl, by rw [HE.out]; exact HL.out, hw2⟩
end Pg
end Go.Proofs.Ytajjoanfojaeiaa

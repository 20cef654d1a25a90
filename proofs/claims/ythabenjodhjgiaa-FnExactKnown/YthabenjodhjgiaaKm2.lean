/- Contracts: the learner in memory; the step that pushed what is stored. -/
import Derived.Test.YthabenjodhjgiaaKm1
namespace Go.Proofs.Ythabenjodhjgiaa
namespace Pg
open Go.ChangeShapes Go.WideShapes Go.ChangeAt Go.RowKit St Wd

/-- The cells of a learner. -/
def lrnC (v : Value) (P : Nat → Bool) (a b c : Nat) : List Value := v :: (chi 40 P ++ [.map (some a), .map (some b), .map (some c)])
theorem lrnC_len (v : Value) (P : Nat → Bool) (a b c : Nat) : (lrnC v P a b c).length = 44 := by simp [lrnC, chi_len]
theorem lrnC_lead (v : Value) (P : Nat → Bool) (a b c : Nat) {k : Nat} (hk : k < 40) : (lrnC v P a b c)[k + 1]? = some (.bool (P k)) := by
  unfold lrnC
  rw [List.getElem?_cons_succ, List.getElem?_append_left (by rw [chi_len]; exact hk), chi_at P hk]
theorem lrnC_at (v : Value) (P : Nat → Bool) (a b c : Nat) : (lrnC v P a b c)[41]? = some (.map (some a)) ∧ (lrnC v P a b c)[42]? = some (.map (some b)) ∧ (lrnC v P a b c)[43]? = some (.map (some c)) := by
  unfold lrnC
  refine ⟨?_, ?_, ?_⟩ <;> (rw [List.getElem?_cons_succ, List.getElem?_append_right (by rw [chi_len]; omega), chi_len]; rfl)
theorem infoI3 : (Try.prog.info? 43).map (·.size) = some 3 := by kernel_rfl
theorem ld_zero (code : List Tx.Ins) : ∀ n, ldB code n 0 = true
  | 0 => by simp [ldB]
  | n + 1 => by simp [ldB, ld_zero code n]
set_option maxRecDepth 100000 in
set_option maxHeartbeats 1000000 in
theorem storedAt_at (g cap L : Nat) (a b c : Nat) (code : List Tx.Ins) (hok : Lay.codeOk code = true) (k : Nat) (hk : k < code.length) (w : World) (hrow : Row w g 0 code)
    (hL : Cells w L (lrnC (.slice (some ⟨g, 0, none⟩) code.length cap) (ldB code code.length) a b c)) :
    Calls Try.prog 81 #[.pointer (some ⟨L, 0, none⟩), .int .i64 (k : Int)] w fun e w' => e = .returned (.agg #[.int .i64 (storedF code k).1, .int .i64 (storedF code k).2.1, .int .i64 (storedF code k).2.2]) ∧ Below w.heap.size w w' := by
  have hl40 := (Lay.ok_len hok).2
  have hkl : (k : Int) < 40 := by omega
  obtain ⟨c0, _⟩ := hL 0 _ rfl
  obtain ⟨c1, _⟩ := hL (k + 1) _ (lrnC_lead _ _ _ _ _ (by omega))
  rw [Nat.add_comm] at c1
  have hLl := cell_lt c0
  have hgl := cell_lt (hrow 0 _ (ins_is (Lay.ok_len hok).1)).1
  cases hld : ldB code code.length k
  · have hk0 : k ≠ 0 := fun e => by rw [e, ld_zero] at hld; simp at hld
    obtain ⟨j, rfl⟩ : ∃ j, k = j + 1 := ⟨k - 1, by omega⟩
    rw [hld] at c1
    have HS : Hid (storedF code (j + 1) = if (insF code j).1 = 1 ∨ (insF code j).1 = 2 then insF code j else (1, UnK, 0)) := by show _ = _; simp [storedF, hld]
    obtain ⟨d0, d1, d2⟩ := hrow j _ (ins_is (by omega))
    simp only [Nat.zero_add] at d0 d1 d2
    generalize insF code j = ins at *
    obtain ⟨op, A, B⟩ := ins
    dsimp only at d0 d1 d2 HS
    have hjl : (j : Int) < (code.length : Int) := by omega
    have hcast : ((j + 1 : Nat) : Int) = (j : Int) + 1 := by omega
    rw [hcast] at hkl ⊢
    clear hL hrow hld hk0 hcast
    have HB : Hid (∀ x y z, Below w.heap.size w (((w.alloc x).alloc y).alloc z)) := fun x y z =>
      (((Below.refl _ _).alloc (Nat.le_refl _) _).alloc (by simp) _).alloc (by simp; omega) _
    by_cases h1 : op = 1
    · subst h1
      go_enter Try.func81, Try.ntmps81
      go_wp2
      refine bodyPost_ret (ret_cell rfl rfl (((Cells.new w _ rfl [.int .i64 1, .int .i64 A, .int .i64 B] 43).alloc _).alloc _).range Try.underlying43 rfl (by rw [infoI3]; rfl)) rfl ?_
      exact ⟨by rw [HS.out]; rfl, HB.out _ _ _⟩
    · by_cases h2 : op = 2
      · subst h2
        go_enter Try.func81, Try.ntmps81
        go_wp2
        refine bodyPost_ret (ret_cell rfl rfl (((Cells.new w _ rfl [.int .i64 2, .int .i64 A, .int .i64 B] 43).alloc _).alloc _).range Try.underlying43 rfl (by rw [infoI3]; rfl)) rfl ?_
        exact ⟨by rw [HS.out]; rfl, HB.out _ _ _⟩
      · have h1' : (op == 1) = false := by simp [h1]
        have h2' : (op == 2) = false := by simp [h2]
        have HS' : Hid (storedF code (j + 1) = (1, UnK, 0)) := by show _ = _; rw [HS.out]; simp [h1, h2]
        go_enter Try.func81, Try.ntmps81
        go_wp2
        refine bodyPost_ret (ret_cell rfl rfl (((Cells.new w _ rfl [.int .i64 1, .int .i64 1099511627776, .int .i64 0] 43).alloc _).alloc _).range Try.underlying43 rfl (by rw [infoI3]; rfl)) rfl ?_
        exact ⟨by rw [HS'.out], HB.out _ _ _⟩
  · rw [hld] at c1
    have HS : Hid (storedF code k = (1, UnK, 0)) := by show _ = _; simp [storedF, hld]
    clear hL hrow hld
    go_enter Try.func81, Try.ntmps81
    go_wp2
    refine bodyPost_ret (ret_cell rfl rfl ((Cells.new w _ rfl [.int .i64 1, .int .i64 1099511627776, .int .i64 0] 43).alloc _).range Try.underlying43 rfl (by rw [infoI3]; rfl)) rfl ?_
    exact ⟨by rw [HS.out], ((Below.refl _ _).alloc (Nat.le_refl _) _).alloc (by simp) _⟩
end Pg
end Go.Proofs.Ythabenjodhjgiaa

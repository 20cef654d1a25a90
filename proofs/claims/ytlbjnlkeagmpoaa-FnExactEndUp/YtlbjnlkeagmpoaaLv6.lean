/- Contracts: the specification's LiveIn. -/
import Derived.Test.YtlbjnlkeagmpoaaLv5
namespace Go.Proofs.Ytlbjnlkeagmpoaa
namespace Pg
open Go.ChangeShapes Go.WideShapes Go.ChangeAt Go.RowKit St

def bitsL (L : Lvs) (n : Nat) : List Int := (List.range n).map fun k => ((bn (L k) 8 : Nat) : Int)
theorem bitsL_len (L : Lvs) (n : Nat) : (bitsL L n).length = n := by simp [bitsL]
theorem bitsL_at {L : Lvs} {n k : Nat} (h : k < n) : (bitsL L n)[k]? = some ((bn (L k) 8 : Nat) : Int) := by simp [bitsL, h]
theorem bitsL_set (L : Lvs) (n k : Nat) (r : Nat → Bool) : (bitsL L n).set k ((bn r 8 : Nat) : Int) = bitsL (setL L k r) n := by
  apply List.ext_getElem?
  intro j
  rw [List.getElem?_set]
  by_cases hj : j < n
  · rw [bitsL_at hj, bitsL_at hj, bitsL_len]
    by_cases e : k = j
    · subst e
      have h1 : setL L k r k = r := by funext v; simp [setL]
      simp [hj, h1]
    · have h1 : setL L k r j = L j := by funext v; simp [setL, Ne.symm e]
      simp [e, h1]
  · have h1 : (bitsL L n)[j]? = none := List.getElem?_eq_none (by rw [bitsL_len]; omega)
    have h2 : (bitsL (setL L k r) n)[j]? = none := List.getElem?_eq_none (by rw [bitsL_len]; omega)
    rw [h1, h2, bitsL_len]
    by_cases e : k = j
    · subst e; simp [hj]
    · simp [e]
theorem sh_a {a : Nat} (ha : a < 8) : wrap64 (2 ^ a) = ((2 ^ a : Nat) : Int) := by
  have h2 : 2 ^ a < 256 := Nat.lt_of_lt_of_le (Nat.pow_lt_pow_right (by decide) ha) (by decide)
  have h4 : ((2 ^ a : Nat) : Int) = (2 : Int) ^ a := by push_cast; rfl
  rw [← h4]
  exact (show ∀ q : Nat, q < 256 → wrap64 (q : Int) = (q : Int) from fun q hq => by unfold wrap64; omega) _ h2
theorem pow_b (a : Nat) : ((2 ^ a : Nat) : Int) = (2 : Int) ^ a := by push_cast; rfl
theorem sh_b {a : Nat} (ha : a < 8) : wrap64 (2 ^ a) = (2 : Int) ^ a := by rw [sh_a ha, pow_b]
/-- Where the specification stands in a round. -/
structure SpL (code : List Tx.Ins) (B L : Lvs) (k : Nat) (m : Bool) : Prop where
  sw : SwL code B L k
  no : m = false → ∀ j v, j < code.length → v < 8 → L j v = B j v
  yes : m = true → cntS 320 (flatP B) < cntS 320 (flatP L)
theorem SpL.start {code : List Tx.Ins} {L : Lvs} (h : LvI code L) : SpL code L L code.length false := ⟨SwL.start h, fun _ _ _ _ _ => rfl, fun h => by simp at h⟩
theorem SpL.stay {code : List Tx.Ins} {B L : Lvs} {k : Nat} {m : Bool} (h : SpL code B L (k + 1) m) (he : bn (liveF code k L) 8 = bn (L k) 8) : SpL code B L k m :=
  ⟨h.sw.stay fun v hv => (bn_eq.1 he v hv).symm, h.no, h.yes⟩
theorem SpL.turn {code : List Tx.Ins} (h40 : code.length ≤ 40) {B L : Lvs} {k : Nat} {m : Bool} (h : SpL code B L (k + 1) m) (hk : k < code.length) (he : bn (liveF code k L) 8 ≠ bn (L k) 8) : SpL code B (setL L k (liveF code k L)) k true := by
  refine ⟨h.sw.step hk, fun h => by simp at h, fun _ => ?_⟩
  have hle := setL_le h.sw.lv hk
  refine Nat.lt_of_le_of_lt (cnt_mono fun q _ => flat_le h.sw.le q) (cnt_lt (fun q _ => flat_le hle q) ?_)
  cases ha : alike 320 (flatP (setL L k (liveF code k L))) (flatP L)
  · rfl
  · exfalso
    apply he
    refine bn_eq.2 fun v hv => ?_
    have := alike_iff.1 ha (k * 8 + v) (by omega)
    rw [flat_at _ _ _ hv, flat_at _ _ _ hv] at this
    simpa [setL] using this
theorem live_is (code : List Tx.Ins) (k : Nat) (M : Lvs) {op A b : Int} (hi : insF code k = (op, A, b)) (a : Nat) (hA : op = 2 ∨ op = 3 → A = (a : Int)) :
    bn (liveF code k M) 8 = if op = 2 then bn (fun v => outF code k M v || decide (v = a)) 8 else if op = 3 then bn (fun v => outF code k M v && !decide (v = a)) 8 else bn (outF code k M) 8 := by
  have hl : ∀ v, liveF code k M v = inF (op, A, b) v (outF code k M v) := fun v => by unfold liveF; rw [hi]
  by_cases h2 : op = 2
  · rw [if_pos h2]
    refine bn_eq.2 fun v _ => ?_
    rw [hl, hA (.inl h2)]
    unfold inF
    dsimp only
    by_cases e : v = a
    · subst e; simp [h2]
    · have e' : ¬ ((a : Int) = (v : Int)) := by omega
      simp [h2, e, e']
  · rw [if_neg h2]
    by_cases h3 : op = 3
    · rw [if_pos h3]
      refine bn_eq.2 fun v _ => ?_
      rw [hl, hA (.inr h3)]
      unfold inF
      dsimp only
      by_cases e : v = a
      · subst e; simp [h3]
      · have e' : ¬ ((a : Int) = (v : Int)) := by omega
        simp [h3, e, e']
    · rw [if_neg h3]
      refine bn_eq.2 fun v _ => ?_
      rw [hl]
      simp [inF, h2, h3]

end Pg
end Go.Proofs.Ytlbjnlkeagmpoaa

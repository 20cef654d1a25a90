/- Which locals are live, plainly: the least answer, and how one comes to it step by step; sets of locals as bits. -/
import Derived.Test.YtlbjnlkeagmpoaaNx6
import Derived.Laws.BitsLemmas
namespace Go.Proofs.Ytlbjnlkeagmpoaa
namespace Pg
open Go.ChangeShapes Go.WideShapes Go.ChangeAt Go.RowKit St

abbrev Lvs := Nat → Nat → Bool
/-- Live behind step k: in what any of those that may come next wants. -/
def outF (code : List Tx.Ins) (k : Nat) (L : Lvs) (v : Nat) : Bool := (List.range 40).any fun j => nxB code k j && L j v
def inF (i : Tx.Ins) (v : Nat) (o : Bool) : Bool := if i.1 = 2 ∧ i.2.1 = (v : Int) then true else if i.1 = 3 ∧ i.2.1 = (v : Int) then false else o
def liveF (code : List Tx.Ins) (k : Nat) (L : Lvs) (v : Nat) : Bool := inF (insF code k) v (outF code k L v)
def LeL (A B : Lvs) : Prop := ∀ j v, v < 8 → A j v = true → B j v = true
theorem LeL.refl (A : Lvs) : LeL A A := fun _ _ _ h => h
theorem LeL.trans {A B C : Lvs} (h : LeL A B) (k : LeL B C) : LeL A C := fun j v hv ha => k j v hv (h j v hv ha)
theorem inF_mono {i : Tx.Ins} {v : Nat} {a b : Bool} (h : a = true → b = true) : inF i v a = true → inF i v b = true := by
  unfold inF
  split
  · exact id
  · split
    · exact id
    · exact h
theorem outF_mono {code : List Tx.Ins} {k : Nat} {A B : Lvs} {v : Nat} (h : ∀ j, j < code.length → A j v = true → B j v = true) : outF code k A v = true → outF code k B v = true := by
  unfold outF
  simp only [List.any_eq_true, Bool.and_eq_true]
  rintro ⟨j, hj, hn, ha⟩
  exact ⟨j, hj, hn, h j (nxB_lt hn) ha⟩
theorem live_mono {code : List Tx.Ins} {k : Nat} {A B : Lvs} {v : Nat} (h : ∀ j, j < code.length → A j v = true → B j v = true) : liveF code k A v = true → liveF code k B v = true := inF_mono (outF_mono h)
theorem live_congr {code : List Tx.Ins} {k : Nat} {A B : Lvs} {v : Nat} (h : ∀ j, j < code.length → A j v = B j v) : liveF code k A v = liveF code k B v := by
  rw [Bool.eq_iff_iff]
  exact ⟨live_mono fun j hj ha => by rw [← h j hj]; exact ha, live_mono fun j hj ha => by rw [h j hj]; exact ha⟩
def PreL (code : List Tx.Ins) (G : Lvs) : Prop := ∀ k v, k < code.length → v < 8 → liveF code k G v = true → G k v = true
structure LvI (code : List Tx.Ins) (L : Lvs) : Prop where
  up : ∀ k v, k < code.length → v < 8 → L k v = true → liveF code k L v = true
  low : ∀ G, PreL code G → ∀ k v, k < code.length → v < 8 → L k v = true → G k v = true
def setL (L : Lvs) (k : Nat) (r : Nat → Bool) : Lvs := fun j v => if j = k then r v else L j v
theorem setL_le {code : List Tx.Ins} {L : Lvs} (h : LvI code L) {k : Nat} (hk : k < code.length) : LeL L (setL L k (liveF code k L)) := fun j v hv hj => by
  unfold setL
  split
  · rename_i e; subst e; exact h.up j v hk hv hj
  · exact hj
theorem LvI.set {code : List Tx.Ins} {L : Lvs} (h : LvI code L) {k : Nat} (hk : k < code.length) : LvI code (setL L k (liveF code k L)) := by
  have hle := setL_le h hk
  refine ⟨fun j v hj hv hl => ?_, fun G hG j v hj hv hl => ?_⟩
  · refine live_mono (fun i _ hi => hle i v hv hi) (k := j) ?_
    unfold setL at hl
    split at hl
    · rename_i e; subst e; exact hl
    · exact h.up j v hj hv hl
  · unfold setL at hl
    split at hl
    · rename_i e; subst e
      exact hG j v hj hv (live_mono (fun i hi ha => h.low G hG i v hi hv ha) hl)
    · exact h.low G hG j v hj hv hl
/-- Where a round from the last step on stands: B as it began, L by now, those from k on are done. -/
structure SwL (code : List Tx.Ins) (B L : Lvs) (k : Nat) : Prop where
  lv : LvI code L
  le : LeL B L
  done : ∀ j, k ≤ j → j < code.length → ∃ M, LeL B M ∧ LeL M L ∧ ∀ v, v < 8 → L j v = liveF code j M v
theorem SwL.start {code : List Tx.Ins} {L : Lvs} (h : LvI code L) : SwL code L L code.length := ⟨h, LeL.refl _, fun j h1 h2 => by omega⟩
theorem SwL.step {code : List Tx.Ins} {B L : Lvs} {k : Nat} (h : SwL code B L (k + 1)) (hk : k < code.length) : SwL code B (setL L k (liveF code k L)) k := by
  have hle := setL_le h.lv hk
  refine ⟨h.lv.set hk, h.le.trans hle, fun j h1 h2 => ?_⟩
  by_cases e : j = k
  · subst e
    exact ⟨L, h.le, hle, fun v _ => by simp [setL]⟩
  · obtain ⟨M, m1, m2, m3⟩ := h.done j (by omega) h2
    exact ⟨M, m1, m2.trans hle, fun v hv => by rw [← m3 v hv]; simp [setL, e]⟩
theorem SwL.stay {code : List Tx.Ins} {B L : Lvs} {k : Nat} (h : SwL code B L (k + 1)) (he : ∀ v, v < 8 → L k v = liveF code k L v) : SwL code B L k :=
  ⟨h.lv, h.le, fun j h1 h2 => by
    by_cases e : j = k
    · subst e; exact ⟨L, h.le, LeL.refl _, he⟩
    · exact h.done j (by omega) h2⟩
theorem SwL.fix {code : List Tx.Ins} {B L : Lvs} (h : SwL code B L 0) (he : ∀ j v, j < code.length → v < 8 → L j v = B j v) : ∀ k v, k < code.length → v < 8 → L k v = liveF code k L v := fun k v hk hv => by
  obtain ⟨M, m1, m2, m3⟩ := h.done k (Nat.zero_le _) hk
  rw [m3 v hv]
  refine live_congr fun j hj => ?_
  rw [Bool.eq_iff_iff]
  exact ⟨m2 j v hv, fun hl => m1 j v hv (by rw [← he j v hj hv]; exact hl)⟩
open Classical in
/-- Live ahead of step k: in whatever holds. -/
noncomputable def lvB (code : List Tx.Ins) (k v : Nat) : Bool := decide (∀ G, PreL code G → G k v = true)
theorem live_end {code : List Tx.Ins} {L : Lvs} (h : LvI code L) (hf : ∀ k v, k < code.length → v < 8 → L k v = liveF code k L v) {k v : Nat} (hk : k < code.length) (hv : v < 8) : L k v = lvB code k v := by
  rw [Bool.eq_iff_iff]
  simp only [lvB, decide_eq_true_eq]
  exact ⟨fun hl G hG => h.low G hG k v hk hv hl, fun hl => hl L fun j u hj hu hx => by rw [hf j u hj hu]; exact hx⟩

def flatP (L : Lvs) (q : Nat) : Bool := L (q / 8) (q % 8)
theorem flat_le {A B : Lvs} (h : LeL A B) (q : Nat) : flatP A q = true → flatP B q = true := h _ _ (Nat.mod_lt _ (by decide))
theorem flat_at (L : Lvs) (k v : Nat) (hv : v < 8) : flatP L (k * 8 + v) = L k v := by
  unfold flatP
  rw [show (k * 8 + v) / 8 = k by omega, show (k * 8 + v) % 8 = v by omega]
theorem flat_set (L : Lvs) (k : Nat) (r : Nat → Bool) (q : Nat) : flatP (setL L k r) q = if q / 8 = k then r (q % 8) else flatP L q := by
  unfold flatP setL
  rfl

/-- The bits of a set below n. -/
def bn (P : Nat → Bool) : Nat → Nat
  | 0 => 0
  | n + 1 => bn P n ||| (if P n then 2 ^ n else 0)
theorem bn_test (P : Nat → Bool) (v : Nat) : ∀ n, (bn P n).testBit v = (decide (v < n) && P v)
  | 0 => by simp [bn]
  | n + 1 => by
    have ih := bn_test P v n
    unfold bn
    rw [Nat.testBit_or, ih]
    by_cases h : P n = true
    · rw [if_pos h, Nat.testBit_two_pow]
      by_cases e : n = v
      · subst e; simp [h]
      · have : decide (v < n + 1) = decide (v < n) := by rw [decide_eq_decide]; omega
        simp [e, this]
    · rw [if_neg h, Nat.zero_testBit, Bool.or_false]
      by_cases e : n = v
      · subst e; simp [h]
      · have : decide (v < n + 1) = decide (v < n) := by rw [decide_eq_decide]; omega
        rw [this]
theorem bn_lt (P : Nat → Bool) (n : Nat) : bn P n < 2 ^ n := by
  refine Nat.lt_pow_two_of_testBit _ fun i hi => ?_
  rw [bn_test]
  have : decide (i < n) = false := by simp; omega
  rw [this, Bool.false_and]
theorem bn_ext {x : Nat} {P : Nat → Bool} (h : ∀ v, x.testBit v = (decide (v < 8) && P v)) : x = bn P 8 := Nat.eq_of_testBit_eq fun v => by rw [h, bn_test]
theorem bn_eq {P Q : Nat → Bool} : bn P 8 = bn Q 8 ↔ ∀ v, v < 8 → P v = Q v := by
  constructor
  · intro h v hv
    have := congrArg (fun x : Nat => x.testBit v) h
    simp only [bn_test] at this
    simpa [hv] using this
  · intro h
    refine bn_ext fun v => ?_
    rw [bn_test]
    by_cases hv : v < 8
    · simp [hv, h v hv]
    · simp [hv]
theorem bn_none : bn (fun _ => false) 8 = 0 := by decide
theorem wraps63 (n : Int) (h₀ : 0 ≤ n) (h₁ : n < 2 ^ 63) : IntKind.i64.wrap n = n := by rw [IntKind.wrap_i64]; omega
theorem or_nat (a b : Nat) (ha : a < 256) (hb : b < 256) : bits .or .i64 (a : Int) (b : Int) = ((a ||| b : Nat) : Int) :=
  (bits_nat .i64 63 (by decide) wraps63 a b (Nat.lt_of_lt_of_le ha (by decide)) (Nat.lt_of_lt_of_le hb (by decide))).2
theorem or_bn (P Q : Nat → Bool) : bits .or .i64 (bn P 8 : Int) (bn Q 8 : Int) = (bn (fun v => P v || Q v) 8 : Int) := by
  rw [or_nat _ _ (bn_lt P 8) (bn_lt Q 8)]
  congr 1
  refine bn_ext fun v => ?_
  rw [Nat.testBit_or, bn_test, bn_test]
  by_cases hv : v < 8 <;> simp [hv]
theorem or_bit (P : Nat → Bool) (a : Nat) (ha : a < 8) : bits .or .i64 (bn P 8 : Int) ((2 ^ a : Nat) : Int) = (bn (fun v => P v || decide (v = a)) 8 : Int) := by
  have h2 : 2 ^ a < 256 := Nat.lt_of_lt_of_le (Nat.pow_lt_pow_right (by decide) ha) (by decide)
  rw [or_nat _ _ (bn_lt P 8) h2]
  congr 1
  refine bn_ext fun v => ?_
  rw [Nat.testBit_or, bn_test, Nat.testBit_two_pow]
  by_cases e : a = v
  · subst e; simp [ha]
  · by_cases hv : v < 8
    · simp [hv, e, Ne.symm e]
    · simp [hv, e]
theorem not_bit (P : Nat → Bool) (a : Nat) (ha : a < 8) : bits .andNot .i64 (bn P 8 : Int) ((2 ^ a : Nat) : Int) = (bn (fun v => P v && !decide (v = a)) 8 : Int) := by
  have hP := bn_lt P 8
  have h2 : 2 ^ a < 256 := Nat.lt_of_lt_of_le (Nat.pow_lt_pow_right (by decide) ha) (by decide)
  have key : (BitVec.ofNat 64 (bn P 8) &&& ~~~(BitVec.ofNat 64 (2 ^ a))).toNat = bn (fun v => P v && !decide (v = a)) 8 := by
    refine bn_ext fun v => ?_
    rw [BitVec.testBit_toNat, BitVec.getLsbD_and, BitVec.getLsbD_not, BitVec.getLsbD_ofNat, BitVec.getLsbD_ofNat, bn_test, Nat.testBit_two_pow]
    by_cases hv : v < 8
    · have h64 : v < 64 := by omega
      simp [hv, h64]
      by_cases e : a = v
      · subst e; simp
      · simp [e, Ne.symm e]
    · simp [hv]
  have hlt := bn_lt (fun v => P v && !decide (v = a)) 8
  show IntKind.i64.wrap ((BitVec.ofInt 64 (bn P 8 : Int) &&& ~~~(BitVec.ofInt 64 ((2 ^ a : Nat) : Int))).toNat : Int) = _
  rw [BitVec.ofInt_natCast, BitVec.ofInt_natCast, key]
  exact wraps63 _ (by omega) (by omega)
end Pg
end Go.Proofs.Ytlbjnlkeagmpoaa

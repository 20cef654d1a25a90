/- Contracts: the pieces of the program that leave two out. -/
import Derived.Test.YthabenjodhjgiaaPe1
import Derived.Test.YthabenjodhjgiaaFo4
import Derived.Deep.Cut
namespace Go.Proofs.Ythabenjodhjgiaa
namespace Pg
open Go.ChangeShapes Go.WideShapes Go.ChangeAt Go.RowKit St Wd

theorem isPeepB_no {l : List Tx.Ins} {n : Int} (h : ¬ (0 ≤ n ∧ n < (l.length : Int) - 2)) : isPeepB l n = false := by
  unfold isPeepB
  have : (decide (0 ≤ n) && decide (n < (l.length : Int) - 2)) = false := by
    cases hb : (decide (0 ≤ n) && decide (n < (l.length : Int) - 2))
    · rfl
    · simp only [Bool.and_eq_true, decide_eq_true_eq] at hb; exact absurd hb h
  rw [this, Bool.false_and]
theorem isPeepB_at {l : List Tx.Ins} {k : Nat} (h : k + 2 < l.length) : isPeepB l (k : Int) = peepB l k := by
  unfold isPeepB
  have : (decide ((0 : Int) ≤ (k : Int)) && decide ((k : Int) < (l.length : Int) - 2)) = true := by simp; omega
  rw [this, Bool.true_and, Int.toNat_natCast]
theorem isPeepB_all {l : List Tx.Ins} (k : Nat) : isPeepB l (k : Int) = peepB l k := by
  by_cases h : k + 2 < l.length
  · exact isPeepB_at h
  · rw [isPeepB_no (by omega)]
    unfold peepB
    rw [decide_eq_false h, Bool.false_and]
theorem peepB_ld {l : List Tx.Ins} {k : Nat} (h : k + 2 < l.length) (hl : ldB l l.length (k + 1) = false) : peepB l k = pairB (insF l k) (insF l (k + 1)) := by
  unfold peepB
  rw [decide_eq_true h, hl]; rfl
theorem peepB_ld' {l : List Tx.Ins} {k : Nat} (hl : ldB l l.length (k + 1) = true) : peepB l k = false := by
  unfold peepB
  rw [hl]; simp
set_option maxRecDepth 100000 in
set_option maxHeartbeats 2000000 in
theorem isPeep_at (g cap : Nat) (code : List Tx.Ins) (hok : Lay.codeOk code = true) (n : Int) (w : World) (hrow : Row w g 0 code) :
    Calls Try.prog 47 #[.slice (some ⟨g, 0, none⟩) code.length cap, .agg (chi 40 (ldB code code.length)).toArray, .int .i64 n] w fun e w' => e = .returned (.bool (isPeepB code n)) ∧ Below w.heap.size w w' := by
  have hl40 := (Lay.ok_len hok).2
  obtain ⟨W, hW⟩ : ∃ W, W = w.alloc (.cells (chi 40 (ldB code code.length)).toArray 57) := ⟨_, rfl⟩
  have hbW : Below w.heap.size w W := by rw [hW]; exact (Below.refl _ _).alloc (Nat.le_refl _) _
  have HC : Hid (Cells (w.alloc (.cells (chi 40 (ldB code code.length)).toArray 57)) w.heap.size (chi 40 (ldB code code.length))) := Cells.new w _ rfl _ _
  have HR : Hid (Row (w.alloc (.cells (chi 40 (ldB code code.length)).toArray 57)) g 0 code) := by rw [← hW]; exact hrow.on hbW
  have hbL : Below w.heap.size w (w.alloc (.cells (chi 40 (ldB code code.length)).toArray 57)) := by rw [← hW]; exact hbW
  clear hW hbW hrow hok
  by_cases hin : 0 ≤ n ∧ n < (code.length : Int) - 2
  · obtain ⟨k, rfl⟩ := Int.eq_ofNat_of_zero_le hin.1
    have h2 : k + 2 < code.length := by omega
    have hbel : (decide ((0 : Int) ≤ (k : Int)) && decide ((k : Int) < (code.length : Int) - 2)) = true := by simp; omega
    have h2i : (k : Int) + 2 < (code.length : Int) := by omega
    have h41 : (k : Int) + 1 < 40 := by omega
    obtain ⟨c1, _⟩ := HC.out (k + 1) _ (chi_at _ (by omega))
    cases h1 : ldB code code.length (k + 1)
    · rw [h1] at c1
      have HE : Hid (isPeepB code (k : Int) = pairB (insF code k) (insF code (k + 1))) := by show _ = _; rw [isPeepB_at h2, peepB_ld h2 h1]
      obtain ⟨d0, d1, d2⟩ := HR.out k _ (ins_is (by omega))
      obtain ⟨e0, e1, e2⟩ := HR.out (k + 1) _ (ins_is (by omega))
      simp only [Nat.zero_add] at d0 d1 d2 e0 e1 e2
      generalize insF code k = x at *
      obtain ⟨xo, xa, xb⟩ := x
      generalize insF code (k + 1) = y at *
      obtain ⟨yo, ya, yb⟩ := y
      dsimp only at d0 d1 d2 e0 e1 e2
      clear h1 HC hin
      go_enter Try.func47, Try.ntmps47
      go_wp2_with fail
      refine (isBelow (k : Int) ((code.length : Int) - 2) _).mono ?_
      rw [hbel]
      rintro e _ ⟨rfl, rfl⟩
      have hkl : k < code.length := by omega
      have hwr : IntKind.i64.wrap ((k : Int) + 1) = (k : Int) + 1 := by simp [IntKind.wrap, IntKind.signed, IntKind.bits]; omega
      have hk1 : (0 : Int) ≤ (k : Int) + 1 ∧ (k : Int) + 1 < (code.length : Int) := by omega
      have htn : ((k : Int) + 1).toNat = k + 1 := by omega
      go_upto_region 3 with fail
      apply meetQ
      case h =>
        intro hp
        go_region_law (go_simp; go_at_call 67; refine (come_at xo xa xb yo ya yb _).mono ?_; rintro e w3 ⟨rfl, hb3⟩; dsimp only)
        all_goals (revert w3; exact hp)
      intro w3 hb3
      go_wp2
      go_ret
      exact ⟨retB HE.out.symm, below_over hbL.drew hb3⟩
    · rw [h1] at c1
      have HE : Hid (isPeepB code (k : Int) = false) := by show _ = _; rw [isPeepB_at h2, peepB_ld' h1]
      clear h1 HC HR hin
      go_enter Try.func47, Try.ntmps47
      go_wp2_with fail
      refine (isBelow (k : Int) ((code.length : Int) - 2) _).mono ?_
      rw [hbel]
      rintro e _ ⟨rfl, rfl⟩
      go_wp2
      go_ret
      exact ⟨retB HE.out.symm, hbL⟩
  · have hbel : (decide ((0 : Int) ≤ n) && decide (n < (code.length : Int) - 2)) = false := by
      cases hb : (decide (0 ≤ n) && decide (n < (code.length : Int) - 2))
      · rfl
      · simp only [Bool.and_eq_true, decide_eq_true_eq] at hb; exact absurd hb hin
    have HE : Hid (isPeepB code n = false) := isPeepB_no hin
    clear hin HC HR
    go_enter Try.func47, Try.ntmps47
    go_wp2_with fail
    refine (isBelow n ((code.length : Int) - 2) _).mono ?_
    rw [hbel]
    rintro e _ ⟨rfl, rfl⟩
    go_wp2
    go_ret
    exact ⟨retB HE.out.symm, hbL⟩
/-- Two of a code's own copy are left out. -/
def LeftP (g : Nat) (code : List Tx.Ins) (k : Nat) (w w' : World) : Prop := Row w' g 0 (peepAt code k) ∧ Room w' g (code.length * 3) ∧ g < w'.heap.size ∧ ∀ B, B ≤ g → B ≤ w.heap.size → Below B w w'
theorem left_of {g k : Nat} {code : List Tx.Ins} {w X : World} (hX : Below w.heap.size w X) (hg : g < w.heap.size) (hrow : Row w g 0 code) (hroom : Room w g (code.length * 3)) (t : Int) (ht : t = toI code k) :
    LeftP g code k w ((((((X.setCell ⟨g, k * 3, none⟩ (.int .i64 11)).setCell ⟨g, k * 3 + 1, none⟩ (.int .i64 t)).setCell ⟨g, k * 3 + 2, none⟩ (.int .i64 0)).setCell ⟨g, (k + 1) * 3, none⟩ (.int .i64 11)).setCell ⟨g, (k + 1) * 3 + 1, none⟩ (.int .i64 ((k : Int) + 2))).setCell ⟨g, (k + 1) * 3 + 2, none⟩ (.int .i64 0)) := by
  subst ht
  have hr := hrow.on hX
  have hm := hroom.on hX
  obtain ⟨q1, q2, q3⟩ := set_one (k := k) (B := g) (u := X) rfl hm hr (Below.refl _ _) (Nat.le_refl _) (11, toI code k, 0)
  obtain ⟨p1, p2, p3⟩ := set_one (k := k + 1) (by simp) q2 q1 q3 (Nat.le_refl _) (11, (k : Int) + 2, 0)
  refine ⟨p1, p2, ?_, fun B hB hw => ?_⟩
  · exact Nat.lt_of_lt_of_le hg (Nat.le_trans hX.size p3.size)
  · exact (hX.mono hw).trans (p3.mono hB)
theorem LeftP.drew {g k : Nat} {code : List Tx.Ins} {w X : World} (h : LeftP g code k w X) : LeftP g code k w X.drew := ⟨h.1, h.2.1, h.2.2.1, fun B h1 h2 => (h.2.2.2 B h1 h2).drew⟩
set_option maxRecDepth 100000 in
set_option maxHeartbeats 2000000 in
theorem leaveOut_at (g cap k : Nat) (code : List Tx.Ins) (h2 : k + 2 < code.length) (h1000 : code.length ≤ 1000) (w : World) (hg : g < w.heap.size) (hrow : Row w g 0 code) (hroom : Room w g (code.length * 3)) :
    Calls Try.prog 49 #[.slice (some ⟨g, 0, none⟩) code.length cap, .int .i64 (k : Int)] w fun e w' => e = .returned (.tuple #[]) ∧ LeftP g code k w w' := by
  have hki : (k : Int) + 2 < (code.length : Int) := by omega
  have hli : (code.length : Int) ≤ 1000 := by omega
  have HR : Hid (Row w g 0 code) := hrow
  have HM : Hid (Room w g (code.length * 3)) := hroom
  obtain ⟨X, hX⟩ : ∃ X, X = (w.alloc (.cells #[.int .i64 11, .int .i64 ((k : Int) + 2), .int .i64 0] 43)).alloc (.cells #[.int .i64 11, .int .i64 ((k : Int) + 2), .int .i64 0] 43) := ⟨_, rfl⟩
  have hbX : Below w.heap.size w X := by rw [hX]; exact ((Below.refl _ _).alloc (Nat.le_refl _) _).alloc (by simp) _
  obtain ⟨d0, d1, d2⟩ := (hrow.on hbX) k _ (ins_is (by omega))
  obtain ⟨e0, e1, e2⟩ := (hrow.on hbX) (k + 1) _ (ins_is (by omega))
  simp only [Nat.zero_add] at d0 d1 d2 e0 e1 e2
  rw [hX] at d1 e0 e1
  clear d0 d2 e2 hrow hroom hX hbX
  by_cases hz : (insF code (k + 1)).1 = 12 ∧ (insF code k).2.1 = 0
  · have HT : Hid ((insF code (k + 1)).2.1 = toI code k) := by show _ = _; simp [toI, hz]
    rw [hz.1] at e0
    rw [hz.2] at d1
    clear hz
    generalize (insF code (k + 1)).2.1 = A at *
    go_enter Try.func49, Try.ntmps49
    go_upto_region 4 with fail
    obtain ⟨V, hV⟩ : ∃ V, V = (w.alloc (.cells #[.int .i64 11, .int .i64 ((k : Int) + 2), .int .i64 0] 43)).alloc (.cells #[.int .i64 11, .int .i64 A, .int .i64 0] 43) := ⟨_, rfl⟩
    have hbV : Below w.heap.size w V := by rw [hV]; exact ((Below.refl _ _).alloc (Nat.le_refl _) _).alloc (by simp) _
    have C4 : Cells V w.heap.size [.int .i64 11, .int .i64 ((k : Int) + 2), .int .i64 0] := by rw [hV]; exact (Cells.new w _ rfl _ _).alloc _
    have C5 : Cells V (w.heap.size + 1) [.int .i64 11, .int .i64 A, .int .i64 0] := by rw [hV]; exact Cells.new (w.alloc _) _ (by simp) _ _
    rw [← hV]
    have HL : Hid (∀ t, t = toI code k → LeftP g code k w ((((((V.setCell ⟨g, k * 3, none⟩ (.int .i64 11)).setCell ⟨g, k * 3 + 1, none⟩ (.int .i64 t)).setCell ⟨g, k * 3 + 2, none⟩ (.int .i64 0)).setCell ⟨g, (k + 1) * 3, none⟩ (.int .i64 11)).setCell ⟨g, (k + 1) * 3 + 1, none⟩ (.int .i64 ((k : Int) + 2))).setCell ⟨g, (k + 1) * 3 + 2, none⟩ (.int .i64 0)).drew) := fun t ht => (left_of hbV hg HR.out HM.out t ht).drew
    have HMV : Room V g (code.length * 3) := HM.out.on hbV
    have n4 : ¬ g = w.heap.size := by omega
    have n5 : ¬ g = w.heap.size + 1 := by omega
    have n6 : ¬ w.heap.size = g := by omega
    have n7 : ¬ w.heap.size + 1 = g := by omega
    clear hV hbV d1 e0 e1 HR HM hg
    obtain ⟨⟨x0, s0⟩, z0⟩ := HMV (k * 3) (by omega)
    obtain ⟨⟨x1, s1⟩, z1⟩ := HMV (k * 3 + 1) (by omega)
    obtain ⟨⟨x2, s2⟩, z2⟩ := HMV (k * 3 + 2) (by omega)
    obtain ⟨⟨x3, s3⟩, z3⟩ := HMV ((k + 1) * 3) (by omega)
    obtain ⟨⟨x4, s4⟩, z4⟩ := HMV ((k + 1) * 3 + 1) (by omega)
    obtain ⟨⟨x5, s5⟩, z5⟩ := HMV ((k + 1) * 3 + 2) (by omega)
    obtain ⟨a0, _⟩ := C4.g0
    obtain ⟨a1, _⟩ := C4.g1
    obtain ⟨a2, _⟩ := C4.g2
    obtain ⟨p0, _⟩ := C5.g0
    obtain ⟨p1, _⟩ := C5.g1
    obtain ⟨p2, _⟩ := C5.g2
    clear C4 C5 HMV
    generalize w.heap.size = b4 at *
    have hkl : k < code.length := by omega
    have hwr : IntKind.i64.wrap ((k : Int) + 1) = (k : Int) + 1 := by simp [IntKind.wrap, IntKind.signed, IntKind.bits]; omega
    have hk1 : (0 : Int) ≤ (k : Int) + 1 ∧ (k : Int) + 1 < (code.length : Int) := by omega
    have htn : ((k : Int) + 1).toNat = k + 1 := by omega
    go_region_law fail
    all_goals
      go_wp2
      go_end0
      exact ⟨rfl, HL.out _ HT.out⟩
  · have HT : Hid ((k : Int) + 2 = toI code k) := by show _ = _; simp only [toI, if_neg hz]
    have hz' : ((insF code (k + 1)).1 == 12) = false ∨ (((insF code (k + 1)).1 == 12) = true ∧ ((insF code k).2.1 == 0) = false) := by
      cases h : ((insF code (k + 1)).1 == 12)
      · exact .inl rfl
      · refine .inr ⟨rfl, ?_⟩
        cases h' : ((insF code k).2.1 == 0)
        · rfl
        · simp only [beq_iff_eq] at h h'; exact absurd ⟨h, h'⟩ hz
    clear hz
    generalize (insF code (k + 1)).1 = op at *
    generalize (insF code k).2.1 = A0 at *
    rcases hz' with h1 | ⟨h1, h3⟩
    all_goals
      go_enter Try.func49, Try.ntmps49
      go_upto_region 4 with fail
      obtain ⟨V, hV⟩ : ∃ V, V = (w.alloc (.cells #[.int .i64 11, .int .i64 ((k : Int) + 2), .int .i64 0] 43)).alloc (.cells #[.int .i64 11, .int .i64 ((k : Int) + 2), .int .i64 0] 43) := ⟨_, rfl⟩
      have hbV : Below w.heap.size w V := by rw [hV]; exact ((Below.refl _ _).alloc (Nat.le_refl _) _).alloc (by simp) _
      have C4 : Cells V w.heap.size [.int .i64 11, .int .i64 ((k : Int) + 2), .int .i64 0] := by rw [hV]; exact (Cells.new w _ rfl _ _).alloc _
      have C5 : Cells V (w.heap.size + 1) [.int .i64 11, .int .i64 ((k : Int) + 2), .int .i64 0] := by rw [hV]; exact Cells.new (w.alloc _) _ (by simp) _ _
      rw [← hV]
      have HL : Hid (∀ t, t = toI code k → LeftP g code k w ((((((V.setCell ⟨g, k * 3, none⟩ (.int .i64 11)).setCell ⟨g, k * 3 + 1, none⟩ (.int .i64 t)).setCell ⟨g, k * 3 + 2, none⟩ (.int .i64 0)).setCell ⟨g, (k + 1) * 3, none⟩ (.int .i64 11)).setCell ⟨g, (k + 1) * 3 + 1, none⟩ (.int .i64 ((k : Int) + 2))).setCell ⟨g, (k + 1) * 3 + 2, none⟩ (.int .i64 0)).drew) := fun t ht => (left_of hbV hg HR.out HM.out t ht).drew
      have HMV : Room V g (code.length * 3) := HM.out.on hbV
      have n4 : ¬ g = w.heap.size := by omega
      have n5 : ¬ g = w.heap.size + 1 := by omega
      have n6 : ¬ w.heap.size = g := by omega
      have n7 : ¬ w.heap.size + 1 = g := by omega
      clear hV hbV d1 e0 e1 HR HM hg
      obtain ⟨⟨x0, s0⟩, z0⟩ := HMV (k * 3) (by omega)
      obtain ⟨⟨x1, s1⟩, z1⟩ := HMV (k * 3 + 1) (by omega)
      obtain ⟨⟨x2, s2⟩, z2⟩ := HMV (k * 3 + 2) (by omega)
      obtain ⟨⟨x3, s3⟩, z3⟩ := HMV ((k + 1) * 3) (by omega)
      obtain ⟨⟨x4, s4⟩, z4⟩ := HMV ((k + 1) * 3 + 1) (by omega)
      obtain ⟨⟨x5, s5⟩, z5⟩ := HMV ((k + 1) * 3 + 2) (by omega)
      obtain ⟨a0, _⟩ := C4.g0
      obtain ⟨a1, _⟩ := C4.g1
      obtain ⟨a2, _⟩ := C4.g2
      obtain ⟨p0, _⟩ := C5.g0
      obtain ⟨p1, _⟩ := C5.g1
      obtain ⟨p2, _⟩ := C5.g2
      clear C4 C5 HMV
      generalize w.heap.size = b4 at *
      have hkl : k < code.length := by omega
      have hwr : IntKind.i64.wrap ((k : Int) + 1) = (k : Int) + 1 := by simp [IntKind.wrap, IntKind.signed, IntKind.bits]; omega
      have hk1 : (0 : Int) ≤ (k : Int) + 1 ∧ (k : Int) + 1 < (code.length : Int) := by omega
      have htn : ((k : Int) + 1).toNat = k + 1 := by omega
      go_region_law fail
      all_goals
        go_wp2
        go_end0
        exact ⟨rfl, HL.out _ HT.out⟩
end Pg
end Go.Proofs.Ythabenjodhjgiaa

/- Contracts of the two sides' small functions on the layout: which step is a jump, and its bytes. -/
import Derived.Test.YtffkkhaiedhaiaaJLay
import Derived.Test.YtffkkhaiedhaiaaJGr0
namespace Go.Proofs.Ytffkkhaiedhaiaa
namespace St
open Go.ChangeShapes Go.WideShapes Go.ChangeAt Go.RowKit

theorem boxC {w w1 : World} {x y z : Value} {t : TypeId} (hb : Below (w.alloc (.cells #[x, y, z] t)).heap.size (w.alloc (.cells #[x, y, z] t)) w1) :
    w1.cell? ⟨w.heap.size, 0, none⟩ = some x ∧ w1.cell? ⟨w.heap.size, 1, none⟩ = some y ∧ w1.cell? ⟨w.heap.size, 2, none⟩ = some z :=
  ⟨(hb.cell (by simp)).trans (by simp), (hb.cell (by simp)).trans (by simp), (hb.cell (by simp)).trans (by simp)⟩
theorem retI {a b : Int} (h : a = b) : Ending.returned (.int .i64 a) = .returned (.int .i64 b) := by rw [h]

set_option maxHeartbeats 800000 in
theorem isJump (op a b : Int) (w : World) :
    Calls Try.prog 71 #[.agg #[.int .i64 op, .int .i64 a, .int .i64 b]] w fun e w' => e = .returned (.bool (Lay.jumpB op)) ∧ Below w.heap.size w w' := by
  by_cases h : op = 11
  · subst h
    go_enter Try.func71, Try.ntmps71
    go_wp2
    go_ret
    exact ⟨rfl, by go_grown⟩
  · go_enter Try.func71, Try.ntmps71
    go_wp2
    go_ret
    exact ⟨rfl, by go_grown⟩
theorem l3Jump (op : Int) (w : World) :
    Calls Try.prog 50 #[.int .i64 op] w fun e w' => e = .returned (.bool (Lay.jumpB op)) ∧ w = w' := by
  by_cases h : op = 11
  · subst h
    go_enter Try.func50, Try.ntmps50
    go_wp2
    go_ret
    exact ⟨rfl, rfl⟩
  · go_enter Try.func50, Try.ntmps50
    go_wp2
    go_ret
    exact ⟨rfl, rfl⟩
end St
end Go.Proofs.Ytffkkhaiedhaiaa

/- Contracts: what may come next, as the program and as the specification list it. -/
namespace Go.Proofs.Ytffkkhaiedhaiaa
namespace Pg
open Go.ChangeShapes Go.WideShapes Go.ChangeAt Go.RowKit St

/-- Where one may come next, as numbers. -/
def waysI (i : Tx.Ins) (at' : Nat) : List Int := (waysF i at').map fun (j : Nat) => (j : Int)
set_option maxRecDepth 100000 in
set_option maxHeartbeats 1000000 in
theorem waysFrom_at (i : Tx.Ins) (k : Nat) (hk : k ≤ 1000) (h0 : i.1 = 11 ∨ i.1 = 12 → 0 ≤ i.2.1) (w : World) :
    Calls Try.prog 72 #[.agg #[.int .i64 i.1, .int .i64 i.2.1, .int .i64 i.2.2], .int .i64 k] w fun e w' => ∃ v, e = .returned v ∧ SI true w.heap.size w' v (waysI i k) ∧ Below w.heap.size w w' := by
  obtain ⟨op, A, b⟩ := i
  dsimp only at *
  have hbl : Below w.heap.size w (w.alloc (.cells #[.int .i64 op, .int .i64 A, .int .i64 b] 76)) := (Below.refl _ _).alloc (Nat.le_refl _) _
  by_cases h20 : op = 20
  · subst h20
    go_enter Try.func72, Try.ntmps72
    go_wp2
    go_ret
    exact ⟨_, rfl, by simpa [waysI, waysF] using SI.nil true _ _, hbl⟩
  · by_cases h11 : op = 11
    · subst h11
      have hA := h0 (.inl rfl)
      have HW : Hid (waysI (11, A, b) k = [A]) := by show _ = _; simp [waysI, waysF]; omega
      go_enter Try.func72, Try.ntmps72
      go_wp2
      go_ret
      refine ⟨_, rfl, ?_, hbl.alloc hbl.size _⟩
      rw [HW.out]
      have h := SI.weak (grow_lit1 (w.alloc (.cells #[.int .i64 11, .int .i64 A, .int .i64 b] 76)) A).gint.si hbl.size
      simpa using h
    · have hwr : wrap64 ((k : Int) + 1) = (k : Int) + 1 := by unfold wrap64; omega
      by_cases h12 : op = 12
      · subst h12
        have hA := h0 (.inr rfl)
        have HW : Hid (waysI (12, A, b) k = [A, (k : Int) + 1]) := by show _ = _; simp [waysI, waysF]; omega
        go_enter Try.func72, Try.ntmps72
        go_wp2
        go_ret
        refine ⟨_, rfl, ?_, hbl.alloc hbl.size _⟩
        rw [HW.out]
        have h := SI.weak (grow_lit2 (w.alloc (.cells #[.int .i64 12, .int .i64 A, .int .i64 b] 76)) A ((k : Int) + 1)).gint.si hbl.size
        simpa using h
      · have HW : Hid (waysI (op, A, b) k = [(k : Int) + 1]) := by show _ = _; simp [waysI, waysF, h20, h11, h12]
        have hn20 : (op == 20) = false := by simp [h20]
        have hn11 : (op == 11) = false := by simp [h11]
        have hn12 : (op == 12) = false := by simp [h12]
        go_enter Try.func72, Try.ntmps72
        go_wp2
        go_ret
        refine ⟨_, rfl, ?_, hbl.alloc hbl.size _⟩
        rw [HW.out]
        have h := SI.weak (grow_lit1 (w.alloc (.cells #[.int .i64 op, .int .i64 A, .int .i64 b] 76)) ((k : Int) + 1)).gint.si hbl.size
        simpa using h
end Pg
end Go.Proofs.Ytffkkhaiedhaiaa

/- Contracts of the two sides' tests whether code is right. -/
namespace Go.Proofs.Ytffkkhaiedhaiaa
namespace St
open Go.ChangeShapes Go.WideShapes Go.ChangeAt Go.RowKit

def good (n : Int) (x : Tx.Ins) : Bool := Tx.okT x && (!(Lay.jumpB x.1) || decide (x.2.1 < n))
theorem all_and {α : Type} (p q : α → Bool) (l : List α) : (l.all p && l.all q) = l.all fun x => p x && q x := by
  induction l with
  | nil => rfl
  | cons x l ih => simp only [List.all_cons, ← ih]; cases p x <;> cases q x <;> cases l.all p <;> simp
theorem codeOk_good (l : List Tx.Ins) : Lay.codeOk l = (decide (0 < l.length) && decide (l.length ≤ 40) && l.all (good l.length)) := by
  unfold Lay.codeOk Tx.okC good
  rw [← all_and]
  simp only [Bool.and_assoc]
theorem take_all {α : Type} {p : α → Bool} {l : List α} {k : Nat} (hk : k < l.length) (h : (l.take k).all p = true) (hx : p l[k] = true) : (l.take (k + 1)).all p = true := by
  rw [List.take_succ_eq_append_getElem hk, List.all_append, h]; simp [hx]
theorem all_no {α : Type} {p : α → Bool} {l : List α} {k : Nat} (hk : k < l.length) (hx : p l[k] = false) : l.all p = false := by
  cases hh : l.all p
  · rfl
  · have := List.all_eq_true.1 hh _ (List.getElem_mem hk)
    rw [hx] at this; simp at this
theorem code_no {l : List Tx.Ins} {k : Nat} (hk : k < l.length) (hx : good l.length l[k] = false) : Lay.codeOk l = false := by
  rw [codeOk_good, all_no hk hx]; simp
theorem jump_nonneg {op a b : Int} (h : Tx.okI op a b = true) (hj : Lay.jumpB op = true) : 0 ≤ a := by
  unfold Tx.okI at h
  unfold Lay.jumpB at hj
  have e : ¬ op = 1 := by
    intro e; rw [e] at hj; simp at hj
  rw [if_neg e] at h
  simp only [Bool.and_eq_true, decide_eq_true_eq] at h
  exact h.1.1.1

set_option maxRecDepth 100000 in
set_option maxHeartbeats 1000000 in
theorem implCodeOk (g cap : Nat) (l : List Tx.Ins) (hl : l.length ≤ 1048576) (w : World) (hr : Row w g 0 l) :
    Calls Try.prog 37 #[.slice (some ⟨g, 0, none⟩) l.length cap] w fun e w' => e = .returned (.bool (Lay.codeOk l)) ∧ Below w.heap.size w w' := by
  have HR : Hid (Row w g 0 l) := hr
  clear hr
  by_cases h0 : l.length = 0
  · have HN : Hid (Lay.codeOk l = false) := by
      show Lay.codeOk l = false
      rw [codeOk_good, h0]; rfl
    have h0i : (l.length : Int) = 0 := by omega
    go_enter Try.func37, Try.ntmps37
    go_wp2
    go_ret
    exact ⟨retB HN.out.symm, Below.refl _ _⟩
  · have h0i : ¬ (l.length : Int) = 0 := by omega
    by_cases hbig : (40 : Int) < (l.length : Int)
    · have HN : Hid (Lay.codeOk l = false) := by
        show Lay.codeOk l = false
        rw [codeOk_good]
        have : decide (l.length ≤ 40) = false := by simp; omega
        rw [this]; simp
      go_enter Try.func37, Try.ntmps37
      go_wp2
      go_ret
      exact ⟨retB HN.out.symm, Below.refl _ _⟩
    · go_enter Try.func37, Try.ntmps37
      go_wp2
      go_loopw [15] (fun i wr => ∃ k : Nat, k ≤ l.length ∧ i = .int .i64 k ∧ Hid ((l.take k).all (good l.length) = true) ∧ Below w.heap.size w wr) (fun i _ => l.length - (intOf i).toNat)
      case atStart => exact ⟨0, Nat.zero_le _, rfl, rfl, Below.refl _ _⟩
      case round =>
        obtain ⟨k, hk, rfl, hall, hb⟩ := hrel
        by_cases hlt : k < l.length
        · obtain ⟨d0, d1, d2⟩ := HR.out.below hb (cell_lt (HR.out k _ (List.getElem?_eq_getElem hlt)).1) k _ (List.getElem?_eq_getElem hlt)
          have HNO : Hid (good l.length l[k] = false → Lay.codeOk l = false) := code_no hlt
          have HYES : Hid (good l.length l[k] = true → (l.take (k + 1)).all (good l.length) = true) := take_all hlt hall.out
          generalize l[k] = x at *
          obtain ⟨op, a, b⟩ := x
          have hki : (k : Int) < (l.length : Int) := by omega
          simp only [Nat.zero_add] at d0 d1 d2
          go_wp2_with fail
          refine (implOk op a b _).mono ?_
          rintro e w1 ⟨rfl, hb1⟩
          have hw1 : Below w.heap.size w w1 := below_over (hb.alloc hb.size _) hb1
          have BX := boxC hb1
          obtain ⟨c0, c1, c2⟩ := BX
          clear hb1 d0 d1 d2
          cases hok : Tx.okI op a b
          · have HN : Hid (Lay.codeOk l = false) := HNO.out (by simp [good, Tx.okT, hok])
            go_wp2
            go_ret
            exact ⟨retB HN.out.symm, hw1⟩
          · go_wp2_with fail
            refine (isJump op a b _).mono ?_
            rintro e w2 ⟨rfl, hb2⟩
            have hw2 : Below w.heap.size w w2 := below_over hw1 hb2
            have c0' := (hb2.cell (cell_lt c0)).trans c0
            have c1' := (hb2.cell (cell_lt c1)).trans c1
            have c2' := (hb2.cell (cell_lt c2)).trans c2
            clear hb2 c0 c1 c2
            cases hj : Lay.jumpB op
            · have HY : Hid ((l.take (k + 1)).all (good l.length) = true) := HYES.out (by simp [good, Tx.okT, hok, hj])
              go_wp2
              go_roundw
              case rel => exact ⟨k + 1, by omega, by go_num, HY.out, hw2⟩
              case measure => simp [intOf]; omega
            · have hnn := jump_nonneg hok hj
              go_wp2_with fail
              refine (isBelow a l.length _).mono ?_
              rintro e w3 ⟨rfl, rfl⟩
              have hda : decide (0 ≤ a) = true := by simp [hnn]
              rw [hda, Bool.true_and]
              cases hq : decide (a < (l.length : Int))
              · have HN : Hid (Lay.codeOk l = false) := HNO.out (by simp only [good, Tx.okT, hok, hj, hq]; rfl)
                clear hq hda
                go_wp2
                go_ret
                exact ⟨retB HN.out.symm, hw2⟩
              · have HY : Hid ((l.take (k + 1)).all (good l.length) = true) := HYES.out (by simp only [good, Tx.okT, hok, hj, hq]; rfl)
                clear hq hda
                go_wp2
                go_roundw
                case rel => exact ⟨k + 1, by omega, by go_num, HY.out, hw2⟩
                case measure => simp [intOf]; omega
        · have HN : Hid (Lay.codeOk l = true) := by
            show Lay.codeOk l = true
            have e : l.take k = l := List.take_of_length_le (by omega)
            have := hall.out
            rw [e] at this
            rw [codeOk_good, this]
            simp; omega
          go_wp2
          go_ret
          exact ⟨retB HN.out.symm, hb⟩
theorem okC_all {l : List Tx.Ins} (h : Tx.okC l = true) : l.length ≤ 40 ∧ l.all Tx.okT = true := by
  unfold Tx.okC at h
  simpa using h
set_option maxRecDepth 100000 in
set_option maxHeartbeats 1000000 in
theorem specCodeOk (g cap : Nat) (l : List Tx.Ins) (hl : l.length ≤ 1048576) (w : World) (hr : Row w g 0 l) :
    Calls Try.prog 20 #[.slice (some ⟨g, 0, none⟩) l.length cap] w fun e w' => e = .returned (.bool (Lay.codeOk l)) ∧ Below w.heap.size w w' := by
  have HR : Hid (Row w g 0 l) := hr
  clear hr
  by_cases h0 : l.length = 0
  · have HN : Hid (Lay.codeOk l = false) := by
      show Lay.codeOk l = false
      rw [codeOk_good, h0]; rfl
    have h0i : (l.length : Int) < 1 := by omega
    go_enter Try.func20, Try.ntmps20
    go_wp2
    go_ret
    exact ⟨retB HN.out.symm, Below.refl _ _⟩
  · have h0i : ¬ (l.length : Int) < 1 := by omega
    cases hok : Tx.okC l
    · have HN : Hid (Lay.codeOk l = false) := by
        show Lay.codeOk l = false
        unfold Lay.codeOk; rw [hok]; simp
      go_enter Try.func20, Try.ntmps20
      go_wp2_with fail
      refine (each_at g cap l hl _ HR.out).mono ?_
      rw [hok]
      rintro e w1 ⟨rfl, hb1⟩
      go_wp2
      go_ret
      exact ⟨retB HN.out.symm, hb1⟩
    · have HA : Hid (l.length ≤ 40 ∧ l.all Tx.okT = true) := okC_all hok
      go_enter Try.func20, Try.ntmps20
      go_wp2_with fail
      refine (each_at g cap l hl _ HR.out).mono ?_
      rw [hok]
      rintro e w1 ⟨rfl, hb1⟩
      go_wp2
      go_loopw [3] (fun i wr => ∃ k : Nat, k ≤ l.length ∧ i = .int .i64 k ∧ Hid ((l.take k).all (good l.length) = true) ∧ Below w.heap.size w wr) (fun i _ => l.length - (intOf i).toNat)
      case atStart => exact ⟨0, Nat.zero_le _, rfl, rfl, hb1⟩
      case round =>
        obtain ⟨k, hk, rfl, hall, hb⟩ := hrel
        by_cases hlt : k < l.length
        · obtain ⟨d0, d1, d2⟩ := HR.out.below hb (cell_lt (HR.out k _ (List.getElem?_eq_getElem hlt)).1) k _ (List.getElem?_eq_getElem hlt)
          have hko : Tx.okT l[k] = true := List.all_eq_true.1 HA.out.2 _ (List.getElem_mem hlt)
          have HNO : Hid (good l.length l[k] = false → Lay.codeOk l = false) := code_no hlt
          have HYES : Hid (good l.length l[k] = true → (l.take (k + 1)).all (good l.length) = true) := take_all hlt hall.out
          generalize l[k] = x at *
          obtain ⟨op, a, b⟩ := x
          have HKO : Hid (Tx.okT (op, a, b) = true) := hko
          clear hko
          have hki : (k : Int) < (l.length : Int) := by omega
          simp only [Nat.zero_add] at d0 d1 d2
          go_wp2_with fail
          refine (l3Jump op _).mono ?_
          rintro e w2 ⟨rfl, rfl⟩
          cases hj : Lay.jumpB op
          · have HY : Hid ((l.take (k + 1)).all (good l.length) = true) := HYES.out (by simp only [good, HKO.out, hj]; rfl)
            go_wp2
            go_roundw
            case rel => exact ⟨k + 1, by omega, by go_num, HY.out, hb⟩
            case measure => simp [intOf]; omega
          · by_cases hq : a < (l.length : Int)
            · have HY : Hid ((l.take (k + 1)).all (good l.length) = true) := HYES.out (by simp only [good, HKO.out, hj]; simp [hq])
              go_wp2
              go_roundw
              case rel => exact ⟨k + 1, by omega, by go_num, HY.out, hb⟩
              case measure => simp [intOf]; omega
            · have HN : Hid (Lay.codeOk l = false) := HNO.out (by simp only [good, HKO.out, hj]; simp; omega)
              go_wp2
              go_ret
              exact ⟨retB HN.out.symm, hb⟩
        · have HN : Hid (Lay.codeOk l = true) := by
            show Lay.codeOk l = true
            have e : l.take k = l := List.take_of_length_le (by omega)
            have := hall.out
            rw [e] at this
            have := HA.out.1
            rw [codeOk_good, ‹l.all _ = true›]
            simp; omega
          go_wp2
          go_ret
          exact ⟨retB HN.out.symm, hb⟩
end St
end Go.Proofs.Ytffkkhaiedhaiaa

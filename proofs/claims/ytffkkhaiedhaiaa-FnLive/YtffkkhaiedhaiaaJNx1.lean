/- Contracts: what may come next, as the program and as the specification list it. -/
import Derived.Test.YtffkkhaiedhaiaaJLo0
import Derived.Deep.MidRow
import Derived.ChangeKeysEq
namespace Go.Proofs.Ytffkkhaiedhaiaa
namespace Pg
open Go.ChangeShapes Go.WideShapes Go.ChangeAt Go.RowKit St

/-- Where one may come next, as numbers. -/
def waysI (i : Tx.Ins) (at' : Nat) : List Int := (waysF i at').map fun (j : Nat) => (j : Int)
set_option maxRecDepth 100000 in
set_option maxHeartbeats 1000000 in
theorem waysFrom_at (i : Tx.Ins) (k : Nat) (hk : k ≤ 1000) (h0 : i.1 = 11 ∨ i.1 = 12 → 0 ≤ i.2.1) (w : World) :
    Calls Try.prog 72 #[.agg #[.int .i64 i.1, .int .i64 i.2.1, .int .i64 i.2.2], .int .i64 k] w fun e w' => ∃ v, e = .returned v ∧ SI true w.heap.size w' v (waysI i k) ∧ Below w.heap.size w w' := by
  obtain ⟨op, A, b⟩ := i
  dsimp only at *
  have hbl : Below w.heap.size w (w.alloc (.cells #[.int .i64 op, .int .i64 A, .int .i64 b] 76)) := (Below.refl _ _).alloc (Nat.le_refl _) _
  by_cases h20 : op = 20
  · subst h20
    go_enter Try.func72, Try.ntmps72
    go_wp2
    go_ret
    exact ⟨_, rfl, by simpa [waysI, waysF] using SI.nil true _ _, hbl⟩
  · by_cases h11 : op = 11
    · subst h11
      have hA := h0 (.inl rfl)
      have HW : Hid (waysI (11, A, b) k = [A]) := by show _ = _; simp [waysI, waysF]; omega
      go_enter Try.func72, Try.ntmps72
      go_wp2
      go_ret
      refine ⟨_, rfl, ?_, hbl.alloc hbl.size _⟩
      rw [HW.out]
      have h := SI.weak (grow_lit1 (w.alloc (.cells #[.int .i64 11, .int .i64 A, .int .i64 b] 76)) A).gint.si hbl.size
      simpa using h
    · have hwr : wrap64 ((k : Int) + 1) = (k : Int) + 1 := by unfold wrap64; omega
      by_cases h12 : op = 12
      · subst h12
        have hA := h0 (.inr rfl)
        have HW : Hid (waysI (12, A, b) k = [A, (k : Int) + 1]) := by show _ = _; simp [waysI, waysF]; omega
        go_enter Try.func72, Try.ntmps72
        go_wp2
        go_ret
        refine ⟨_, rfl, ?_, hbl.alloc hbl.size _⟩
        rw [HW.out]
        have h := SI.weak (grow_lit2 (w.alloc (.cells #[.int .i64 12, .int .i64 A, .int .i64 b] 76)) A ((k : Int) + 1)).gint.si hbl.size
        simpa using h
      · have HW : Hid (waysI (op, A, b) k = [(k : Int) + 1]) := by show _ = _; simp [waysI, waysF, h20, h11, h12]
        have hn20 : (op == 20) = false := by simp [h20]
        have hn11 : (op == 11) = false := by simp [h11]
        have hn12 : (op == 12) = false := by simp [h12]
        go_enter Try.func72, Try.ntmps72
        go_wp2
        go_ret
        refine ⟨_, rfl, ?_, hbl.alloc hbl.size _⟩
        rw [HW.out]
        have h := SI.weak (grow_lit1 (w.alloc (.cells #[.int .i64 op, .int .i64 A, .int .i64 b] 76)) ((k : Int) + 1)).gint.si hbl.size
        simpa using h
set_option maxRecDepth 100000 in
set_option maxHeartbeats 2000000 in
theorem l9Nexts_at (g yc : Nat) (code : List Tx.Ins) (hl : code.length ≤ 1000) (k : Nat) (hk : k < code.length) (w : World) (hrow : Row w g 0 code) :
    Calls Try.prog 46 #[.slice (some ⟨g, 0, none⟩) code.length yc, .int .i64 k] w fun e w' => ∃ v, e = .returned v ∧ Lst w' v (nextsF code k) ∧ Below w.heap.size w w' := by
  have hx : code[k]? = some (insF code k) := by unfold insF; rw [List.getD_eq_getElem?_getD, List.getElem?_eq_getElem hk]; rfl
  obtain ⟨d0, d1, d2⟩ := hrow k _ hx
  simp only [Nat.zero_add] at d0 d1 d2
  have hki : (k : Int) < (code.length : Int) := by omega
  rw [nexts_is]
  generalize insF code k = ins at *
  obtain ⟨op, A, b⟩ := ins
  dsimp only at d0 d1 d2 ⊢
  have hw2 : Below w.heap.size w ((w.alloc (.cells #[.int .i64 op, .int .i64 A, .int .i64 b] 76)).alloc (.cells #[] 2)) := ((Below.refl _ _).alloc (Nat.le_refl _) _).alloc (by simp) _
  have CI2 : Hid (Cells ((w.alloc (.cells #[.int .i64 op, .int .i64 A, .int .i64 b] 76)).alloc (.cells #[] 2)) w.heap.size [.int .i64 op, .int .i64 A, .int .i64 b]) := (Cells.new w _ rfl _ _).alloc _
  have CI3 : Hid (Cells (((w.alloc (.cells #[.int .i64 op, .int .i64 A, .int .i64 b] 76)).alloc (.cells #[] 2)).alloc (.cells #[.int .i64 ((k : Int) + 1)] 2)) w.heap.size [.int .i64 op, .int .i64 A, .int .i64 b]) := ((Cells.new w _ rfl _ _).alloc _).alloc _
  have hge : Grow (w.heap.size + 1) ((w.alloc (.cells #[.int .i64 op, .int .i64 A, .int .i64 b] 76)).alloc (.cells #[] 2)) (.slice (some ⟨w.heap.size + 1, 0, none⟩) 0 0) [] := by
    have h := grow_empty (w.alloc (.cells #[.int .i64 op, .int .i64 A, .int .i64 b] 76)) (B := w.heap.size + 1) (by simp)
    simpa using h
  have HGL : Hid (Grow (w.heap.size + 1) (((w.alloc (.cells #[.int .i64 op, .int .i64 A, .int .i64 b] 76)).alloc (.cells #[] 2)).alloc (.cells #[.int .i64 ((k : Int) + 1)] 2)) (.slice (some ⟨w.heap.size + 1, 0, none⟩) 0 0) []) := growOn hge (allocBelow _ _)
  have HL0 : Hid (Lst ((w.alloc (.cells #[.int .i64 op, .int .i64 A, .int .i64 b] 76)).alloc (.cells #[] 2)) (.slice (some ⟨w.heap.size + 1, 0, none⟩) 0 0) []) := hge.lst
  have HSI : Hid (SI true (w.heap.size + 1) (((w.alloc (.cells #[.int .i64 op, .int .i64 A, .int .i64 b] 76)).alloc (.cells #[] 2)).alloc (.cells #[.int .i64 ((k : Int) + 1)] 2)) (.slice (some ⟨w.heap.size + 1 + 1, 0, none⟩) 1 1) [(k : Int) + 1]) := by
    have h := SI.weak (grow_lit1 ((w.alloc (.cells #[.int .i64 op, .int .i64 A, .int .i64 b] 76)).alloc (.cells #[] 2)) ((k : Int) + 1)).gint.si (B' := w.heap.size + 1) (by simp)
    show SI _ _ _ _ _
    simpa using h
  clear hx hrow hge
  by_cases h11 : op = 11
  · subst h11
    have HV : Hid (nextsL 11 A k code.length = putL [] A) := by show _ = _; simp [nextsL]
    rw [HV.out]
    have hjb : Lay.jumpB 11 = true := by simp [Lay.jumpB]
    go_enter Try.func46, Try.ntmps46
    obtain ⟨i0, _⟩ := CI2.out.g0
    obtain ⟨i1, _⟩ := CI2.out.g1
    go_wp2_with fail
    refine (St.l3Jump 11 ((w.alloc (.cells #[.int .i64 11, .int .i64 A, .int .i64 b] 76)).alloc (.cells #[] 2))).mono ?_
    rw [hjb]
    rintro e _ ⟨rfl, rfl⟩
    go_wp2_with fail
    refine (l1Put ([] : List Int) (.slice (some ⟨w.heap.size + 1, 0, none⟩) 0 0) A (by simp) ((w.alloc (.cells #[.int .i64 11, .int .i64 A, .int .i64 b] 76)).alloc (.cells #[] 2)) HL0.out).mono ?_
    rintro e w3 ⟨v', rfl, hls, hb3⟩
    have hw3 : Below w.heap.size w w3 := below_over hw2 hb3
    clear hb3
    go_wp2
    go_ret
    exact ⟨_, rfl, hls, hw3⟩
  · have hn11 : (op != 11) = true := by simp [h11]
    by_cases h20 : op = 20
    · subst h20
      clear hn11
      have HV : Hid (nextsL 20 A k code.length = []) := by show _ = _; simp [nextsL]
      rw [HV.out]
      have hjb : Lay.jumpB 20 = false := by simp [Lay.jumpB]
      go_enter Try.func46, Try.ntmps46
      obtain ⟨i0, _⟩ := CI2.out.g0
      obtain ⟨i1, _⟩ := CI2.out.g1
      go_wp2_with fail
      refine (St.l3Jump 20 ((w.alloc (.cells #[.int .i64 20, .int .i64 A, .int .i64 b] 76)).alloc (.cells #[] 2))).mono ?_
      rw [hjb]
      rintro e _ ⟨rfl, rfl⟩
      go_wp2
      go_ret
      exact ⟨_, rfl, HL0.out, hw2⟩
    · have hn20 : (op != 20) = true := by simp [h20]
      by_cases hlt : k + 1 < code.length
      · have hli : (k : Int) + 1 < (code.length : Int) := by omega
        have hld : decide ((k : Int) + 1 < (code.length : Int)) = true := by simp; omega
        by_cases h12 : op = 12
        · subst h12
          clear hn11 hn20
          have HV : Hid (nextsL 12 A k code.length = putL [(k : Int) + 1] A) := by show _ = _; simp [nextsL, hlt]
          rw [HV.out]
          have hjb : Lay.jumpB 12 = true := by simp [Lay.jumpB]
          go_enter Try.func46, Try.ntmps46
          go_wp2_with (at_builtin; refine wpList_grow rfl _ _ rfl (w.heap.size + 1) _ _ rfl HGL.out (by simp) _ _ _ [(k : Int) + 1] rfl HSI.out (by simp) ?_)
          intro v1 w1 hg1 hk1
          have hw1 : Below w.heap.size w w1 := ((((Below.refl _ _).alloc (Nat.le_refl _) _).alloc (by simp) _).alloc (by simp; omega) _).trans (hk1.below.mono (Nat.le_succ _))
          have CI1 : Cells w1 w.heap.size [.int .i64 12, .int .i64 A, .int .i64 b] := CI3.out.low hk1.below (Nat.lt_succ_self _)
          have HGW : Hid (Grow (w.heap.size + 1) w1 v1 [(k : Int) + 1]) := hg1
          obtain ⟨i0, _⟩ := CI1.g0
          obtain ⟨i1, _⟩ := CI1.g1
          clear hg1 hk1
          go_wp2_with fail
          refine (St.l3Jump 12 w1).mono ?_
          rw [hjb]
          rintro e _ ⟨rfl, rfl⟩
          go_wp2_with fail
          refine (l1Put [(k : Int) + 1] v1 A (by simp) w1 HGW.out.lst).mono ?_
          rintro e w3 ⟨v', rfl, hls, hb3⟩
          have hw3 : Below w.heap.size w w3 := below_over hw1 hb3
          clear hb3
          go_wp2
          go_ret
          exact ⟨_, rfl, hls, hw3⟩
        · have HV : Hid (nextsL op A k code.length = [(k : Int) + 1]) := by show _ = _; simp [nextsL, h11, h20, h12, hlt]
          rw [HV.out]
          have hjb : Lay.jumpB op = false := by simp [Lay.jumpB, h11, h12]
          go_enter Try.func46, Try.ntmps46
          go_wp2_with (at_builtin; refine wpList_grow rfl _ _ rfl (w.heap.size + 1) _ _ rfl HGL.out (by simp) _ _ _ [(k : Int) + 1] rfl HSI.out (by simp) ?_)
          intro v1 w1 hg1 hk1
          have hw1 : Below w.heap.size w w1 := ((((Below.refl _ _).alloc (Nat.le_refl _) _).alloc (by simp) _).alloc (by simp; omega) _).trans (hk1.below.mono (Nat.le_succ _))
          have CI1 : Cells w1 w.heap.size [.int .i64 op, .int .i64 A, .int .i64 b] := CI3.out.low hk1.below (Nat.lt_succ_self _)
          have HGW : Hid (Grow (w.heap.size + 1) w1 v1 [(k : Int) + 1]) := hg1
          obtain ⟨i0, _⟩ := CI1.g0
          obtain ⟨i1, _⟩ := CI1.g1
          clear hg1 hk1
          go_wp2_with fail
          refine (St.l3Jump op w1).mono ?_
          rw [hjb]
          rintro e _ ⟨rfl, rfl⟩
          go_wp2
          go_ret
          exact ⟨_, rfl, HGW.out.lst, hw1⟩
      · have hli : ¬ (k : Int) + 1 < (code.length : Int) := by omega
        have hld : decide ((k : Int) + 1 < (code.length : Int)) = false := by simp; omega
        by_cases h12 : op = 12
        · subst h12
          clear hn11 hn20
          have HV : Hid (nextsL 12 A k code.length = putL [] A) := by show _ = _; simp [nextsL, hlt]
          rw [HV.out]
          have hjb : Lay.jumpB 12 = true := by simp [Lay.jumpB]
          go_enter Try.func46, Try.ntmps46
          obtain ⟨i0, _⟩ := CI2.out.g0
          obtain ⟨i1, _⟩ := CI2.out.g1
          go_wp2_with fail
          refine (St.l3Jump 12 ((w.alloc (.cells #[.int .i64 12, .int .i64 A, .int .i64 b] 76)).alloc (.cells #[] 2))).mono ?_
          rw [hjb]
          rintro e _ ⟨rfl, rfl⟩
          go_wp2_with fail
          refine (l1Put ([] : List Int) (.slice (some ⟨w.heap.size + 1, 0, none⟩) 0 0) A (by simp) ((w.alloc (.cells #[.int .i64 12, .int .i64 A, .int .i64 b] 76)).alloc (.cells #[] 2)) HL0.out).mono ?_
          rintro e w3 ⟨v', rfl, hls, hb3⟩
          have hw3 : Below w.heap.size w w3 := below_over hw2 hb3
          clear hb3
          go_wp2
          go_ret
          exact ⟨_, rfl, hls, hw3⟩
        · have HV : Hid (nextsL op A k code.length = []) := by show _ = _; simp [nextsL, h11, h12, hlt]
          rw [HV.out]
          have hjb : Lay.jumpB op = false := by simp [Lay.jumpB, h11, h12]
          go_enter Try.func46, Try.ntmps46
          obtain ⟨i0, _⟩ := CI2.out.g0
          obtain ⟨i1, _⟩ := CI2.out.g1
          go_wp2_with fail
          refine (St.l3Jump op ((w.alloc (.cells #[.int .i64 op, .int .i64 A, .int .i64 b] 76)).alloc (.cells #[] 2))).mono ?_
          rw [hjb]
          rintro e _ ⟨rfl, rfl⟩
          go_wp2
          go_ret
          exact ⟨_, rfl, HL0.out, hw2⟩
end Pg
end Go.Proofs.Ytffkkhaiedhaiaa

/- Contracts of the two sides' tests whether code is right. -/
namespace Go.Proofs.Ytffkkhaiedhaiaa
namespace St
open Go.ChangeShapes Go.WideShapes Go.ChangeAt Go.RowKit

def good (n : Int) (x : Tx.Ins) : Bool := Tx.okT x && (!(Lay.jumpB x.1) || decide (x.2.1 < n))
theorem all_and {α : Type} (p q : α → Bool) (l : List α) : (l.all p && l.all q) = l.all fun x => p x && q x := by
  induction l with
  | nil => rfl
  | cons x l ih => simp only [List.all_cons, ← ih]; cases p x <;> cases q x <;> cases l.all p <;> simp
theorem codeOk_good (l : List Tx.Ins) : Lay.codeOk l = (decide (0 < l.length) && decide (l.length ≤ 40) && l.all (good l.length)) := by
  unfold Lay.codeOk Tx.okC good
  rw [← all_and]
  simp only [Bool.and_assoc]
theorem take_all {α : Type} {p : α → Bool} {l : List α} {k : Nat} (hk : k < l.length) (h : (l.take k).all p = true) (hx : p l[k] = true) : (l.take (k + 1)).all p = true := by
  rw [List.take_succ_eq_append_getElem hk, List.all_append, h]; simp [hx]
theorem all_no {α : Type} {p : α → Bool} {l : List α} {k : Nat} (hk : k < l.length) (hx : p l[k] = false) : l.all p = false := by
  cases hh : l.all p
  · rfl
  · have := List.all_eq_true.1 hh _ (List.getElem_mem hk)
    rw [hx] at this; simp at this
theorem code_no {l : List Tx.Ins} {k : Nat} (hk : k < l.length) (hx : good l.length l[k] = false) : Lay.codeOk l = false := by
  rw [codeOk_good, all_no hk hx]; simp
theorem jump_nonneg {op a b : Int} (h : Tx.okI op a b = true) (hj : Lay.jumpB op = true) : 0 ≤ a := by
  unfold Tx.okI at h
  unfold Lay.jumpB at hj
  have e : ¬ op = 1 := by
    intro e; rw [e] at hj; simp at hj
  rw [if_neg e] at h
  simp only [Bool.and_eq_true, decide_eq_true_eq] at h
  exact h.1.1.1

set_option maxRecDepth 100000 in
set_option maxHeartbeats 1000000 in
theorem implCodeOk (g cap : Nat) (l : List Tx.Ins) (hl : l.length ≤ 1048576) (w : World) (hr : Row w g 0 l) :
    Calls Try.prog 37 #[.slice (some ⟨g, 0, none⟩) l.length cap] w fun e w' => e = .returned (.bool (Lay.codeOk l)) ∧ Below w.heap.size w w' := by
  have HR : Hid (Row w g 0 l) := hr
  clear hr
  by_cases h0 : l.length = 0
  · have HN : Hid (Lay.codeOk l = false) := by
      show Lay.codeOk l = false
      rw [codeOk_good, h0]; rfl
    have h0i : (l.length : Int) = 0 := by omega
    go_enter Try.func37, Try.ntmps37
    go_wp2
    go_ret
    exact ⟨retB HN.out.symm, Below.refl _ _⟩
  · have h0i : ¬ (l.length : Int) = 0 := by omega
    by_cases hbig : (40 : Int) < (l.length : Int)
    · have HN : Hid (Lay.codeOk l = false) := by
        show Lay.codeOk l = false
        rw [codeOk_good]
        have : decide (l.length ≤ 40) = false := by simp; omega
        rw [this]; simp
      go_enter Try.func37, Try.ntmps37
      go_wp2
      go_ret
      exact ⟨retB HN.out.symm, Below.refl _ _⟩
    · go_enter Try.func37, Try.ntmps37
      go_wp2
      go_loopw [15] (fun i wr => ∃ k : Nat, k ≤ l.length ∧ i = .int .i64 k ∧ Hid ((l.take k).all (good l.length) = true) ∧ Below w.heap.size w wr) (fun i _ => l.length - (intOf i).toNat)
      case atStart => exact ⟨0, Nat.zero_le _, rfl, rfl, Below.refl _ _⟩
      case round =>
        obtain ⟨k, hk, rfl, hall, hb⟩ := hrel
        by_cases hlt : k < l.length
        · obtain ⟨d0, d1, d2⟩ := HR.out.below hb (cell_lt (HR.out k _ (List.getElem?_eq_getElem hlt)).1) k _ (List.getElem?_eq_getElem hlt)
          have HNO : Hid (good l.length l[k] = false → Lay.codeOk l = false) := code_no hlt
          have HYES : Hid (good l.length l[k] = true → (l.take (k + 1)).all (good l.length) = true) := take_all hlt hall.out
          generalize l[k] = x at *
          obtain ⟨op, a, b⟩ := x
          have hki : (k : Int) < (l.length : Int) := by omega
          simp only [Nat.zero_add] at d0 d1 d2
          go_wp2_with fail
          refine (implOk op a b _).mono ?_
          rintro e w1 ⟨rfl, hb1⟩
          have hw1 : Below w.heap.size w w1 := below_over (hb.alloc hb.size _) hb1
          have BX := boxC hb1
          obtain ⟨c0, c1, c2⟩ := BX
          clear hb1 d0 d1 d2
          cases hok : Tx.okI op a b
          · have HN : Hid (Lay.codeOk l = false) := HNO.out (by simp [good, Tx.okT, hok])
            go_wp2
            go_ret
            exact ⟨retB HN.out.symm, hw1⟩
          · go_wp2_with fail
            refine (isJump op a b _).mono ?_
            rintro e w2 ⟨rfl, hb2⟩
            have hw2 : Below w.heap.size w w2 := below_over hw1 hb2
            have c0' := (hb2.cell (cell_lt c0)).trans c0
            have c1' := (hb2.cell (cell_lt c1)).trans c1
            have c2' := (hb2.cell (cell_lt c2)).trans c2
            clear hb2 c0 c1 c2
            cases hj : Lay.jumpB op
            · have HY : Hid ((l.take (k + 1)).all (good l.length) = true) := HYES.out (by simp [good, Tx.okT, hok, hj])
              go_wp2
              go_roundw
              case rel => exact ⟨k + 1, by omega, by go_num, HY.out, hw2⟩
              case measure => simp [intOf]; omega
            · have hnn := jump_nonneg hok hj
              go_wp2_with fail
              refine (isBelow a l.length _).mono ?_
              rintro e w3 ⟨rfl, rfl⟩
              have hda : decide (0 ≤ a) = true := by simp [hnn]
              rw [hda, Bool.true_and]
              cases hq : decide (a < (l.length : Int))
              · have HN : Hid (Lay.codeOk l = false) := HNO.out (by simp only [good, Tx.okT, hok, hj, hq]; rfl)
                clear hq hda
                go_wp2
                go_ret
                exact ⟨retB HN.out.symm, hw2⟩
              · have HY : Hid ((l.take (k + 1)).all (good l.length) = true) := HYES.out (by simp only [good, Tx.okT, hok, hj, hq]; rfl)
                clear hq hda
                go_wp2
                go_roundw
                case rel => exact ⟨k + 1, by omega, by go_num, HY.out, hw2⟩
                case measure => simp [intOf]; omega
        · have HN : Hid (Lay.codeOk l = true) := by
            show Lay.codeOk l = true
            have e : l.take k = l := List.take_of_length_le (by omega)
            have := hall.out
            rw [e] at this
            rw [codeOk_good, this]
            simp; omega
          go_wp2
          go_ret
          exact ⟨retB HN.out.symm, hb⟩
theorem okC_all {l : List Tx.Ins} (h : Tx.okC l = true) : l.length ≤ 40 ∧ l.all Tx.okT = true := by
  unfold Tx.okC at h
  simpa using h
set_option maxRecDepth 100000 in
set_option maxHeartbeats 1000000 in
theorem specCodeOk (g cap : Nat) (l : List Tx.Ins) (hl : l.length ≤ 1048576) (w : World) (hr : Row w g 0 l) :
    Calls Try.prog 20 #[.slice (some ⟨g, 0, none⟩) l.length cap] w fun e w' => e = .returned (.bool (Lay.codeOk l)) ∧ Below w.heap.size w w' := by
  have HR : Hid (Row w g 0 l) := hr
  clear hr
  by_cases h0 : l.length = 0
  · have HN : Hid (Lay.codeOk l = false) := by
      show Lay.codeOk l = false
      rw [codeOk_good, h0]; rfl
    have h0i : (l.length : Int) < 1 := by omega
    go_enter Try.func20, Try.ntmps20
    go_wp2
    go_ret
    exact ⟨retB HN.out.symm, Below.refl _ _⟩
  · have h0i : ¬ (l.length : Int) < 1 := by omega
    cases hok : Tx.okC l
    · have HN : Hid (Lay.codeOk l = false) := by
        show Lay.codeOk l = false
        unfold Lay.codeOk; rw [hok]; simp
      go_enter Try.func20, Try.ntmps20
      go_wp2_with fail
      refine (each_at g cap l hl _ HR.out).mono ?_
      rw [hok]
      rintro e w1 ⟨rfl, hb1⟩
      go_wp2
      go_ret
      exact ⟨retB HN.out.symm, hb1⟩
    · have HA : Hid (l.length ≤ 40 ∧ l.all Tx.okT = true) := okC_all hok
      go_enter Try.func20, Try.ntmps20
      go_wp2_with fail
      refine (each_at g cap l hl _ HR.out).mono ?_
      rw [hok]
      rintro e w1 ⟨rfl, hb1⟩
      go_wp2
      go_loopw [3] (fun i wr => ∃ k : Nat, k ≤ l.length ∧ i = .int .i64 k ∧ Hid ((l.take k).all (good l.length) = true) ∧ Below w.heap.size w wr) (fun i _ => l.length - (intOf i).toNat)
      case atStart => exact ⟨0, Nat.zero_le _, rfl, rfl, hb1⟩
      case round =>
        obtain ⟨k, hk, rfl, hall, hb⟩ := hrel
        by_cases hlt : k < l.length
        · obtain ⟨d0, d1, d2⟩ := HR.out.below hb (cell_lt (HR.out k _ (List.getElem?_eq_getElem hlt)).1) k _ (List.getElem?_eq_getElem hlt)
          have hko : Tx.okT l[k] = true := List.all_eq_true.1 HA.out.2 _ (List.getElem_mem hlt)
          have HNO : Hid (good l.length l[k] = false → Lay.codeOk l = false) := code_no hlt
          have HYES : Hid (good l.length l[k] = true → (l.take (k + 1)).all (good l.length) = true) := take_all hlt hall.out
          generalize l[k] = x at *
          obtain ⟨op, a, b⟩ := x
          have HKO : Hid (Tx.okT (op, a, b) = true) := hko
          clear hko
          have hki : (k : Int) < (l.length : Int) := by omega
          simp only [Nat.zero_add] at d0 d1 d2
          go_wp2_with fail
          refine (l3Jump op _).mono ?_
          rintro e w2 ⟨rfl, rfl⟩
          cases hj : Lay.jumpB op
          · have HY : Hid ((l.take (k + 1)).all (good l.length) = true) := HYES.out (by simp only [good, HKO.out, hj]; rfl)
            go_wp2
            go_roundw
            case rel => exact ⟨k + 1, by omega, by go_num, HY.out, hb⟩
            case measure => simp [intOf]; omega
          · by_cases hq : a < (l.length : Int)
            · have HY : Hid ((l.take (k + 1)).all (good l.length) = true) := HYES.out (by simp only [good, HKO.out, hj]; simp [hq])
              go_wp2
              go_roundw
              case rel => exact ⟨k + 1, by omega, by go_num, HY.out, hb⟩
              case measure => simp [intOf]; omega
            · have HN : Hid (Lay.codeOk l = false) := HNO.out (by simp only [good, HKO.out, hj]; simp; omega)
              go_wp2
              go_ret
              exact ⟨retB HN.out.symm, hb⟩
        · have HN : Hid (Lay.codeOk l = true) := by
            show Lay.codeOk l = true
            have e : l.take k = l := List.take_of_length_le (by omega)
            have := hall.out
            rw [e] at this
            have := HA.out.1
            rw [codeOk_good, ‹l.all _ = true›]
            simp; omega
          go_wp2
          go_ret
          exact ⟨retB HN.out.symm, hb⟩
end St
end Go.Proofs.Ytffkkhaiedhaiaa

/- Contracts of the program's sets of steps: one more in them, what is in them, rising. -/
namespace Go.Proofs.Ytffkkhaiedhaiaa
namespace Pg
open Go.ChangeShapes Go.WideShapes Go.ChangeAt Go.RowKit St

/-- A set of steps, as the cells of an array. -/
def chi (n : Nat) (P : Nat → Bool) : List Value := (List.range n).map fun j => Value.bool (P j)
theorem chi_len (n : Nat) (P : Nat → Bool) : (chi n P).length = n := by simp [chi]
theorem chi_at {n : Nat} (P : Nat → Bool) {j : Nat} (h : j < n) : (chi n P)[j]? = some (.bool (P j)) := by simp [chi, h]
theorem chi_one (n : Nat) (P : Nat → Bool) : ∀ v ∈ chi n P, v.oneCell' = true := by
  intro v hv
  obtain ⟨j, _, rfl⟩ := List.mem_map.1 hv
  rfl
theorem chi_congr {n : Nat} {P Q : Nat → Bool} (h : ∀ j, j < n → P j = Q j) : chi n P = chi n Q := by
  unfold chi
  exact List.map_congr_left fun j hj => by rw [h j (List.mem_range.1 hj)]
theorem chi_set {n : Nat} (P : Nat → Bool) (k : Nat) (b : Bool) : (chi n P).set k (.bool b) = chi n fun j => if j = k then b else P j := by
  apply List.ext_getElem?
  intro j
  rw [List.getElem?_set]
  by_cases hj : j < n
  · rw [chi_at _ hj, chi_at _ hj, chi_len]
    by_cases e : k = j
    · subst e; simp [hj]
    · simp [e, Ne.symm e]
  · have h1 : (chi n P)[j]? = none := List.getElem?_eq_none (by rw [chi_len]; omega)
    have h2 : (chi n fun j => if j = k then b else P j)[j]? = none := List.getElem?_eq_none (by rw [chi_len]; omega)
    rw [h1, h2, chi_len]
    by_cases e : k = j
    · subst e; simp [hj]
    · simp [e]
theorem Cells.range {w : World} {k : Nat} {vs : List Value} (h : Cells w k vs) : w.rangeAt k 0 vs := fun j v hv => by rw [Nat.zero_add]; exact (h j v hv).1
theorem Cells.there {w : World} {k : Nat} {vs : List Value} (h : Cells w k vs) {n : Nat} (hn : n = vs.length) : w.there k 0 n := fun j hj => by
  subst hn
  obtain ⟨h1, h2⟩ := h j _ (List.getElem?_eq_getElem hj)
  rw [Nat.zero_add]
  exact ⟨by rw [h1]; rfl, h2⟩
theorem Cells.put {w : World} {k : Nat} {vs us : List Value} (h : Cells w k vs) (hn : us.length = vs.length) : Cells (w.setCells k 0 us) k us := fun i x hx => by
  have h1 := World.rangeAt_setCells_same w k 0 us (h.there hn) i x hx
  have h2 := (World.there_setCells (h.there hn) k 0 us) i (List.getElem?_eq_some_iff.1 hx).1
  rw [Nat.zero_add] at h1 h2
  exact ⟨h1, h2.2⟩
theorem Cells.putFar {w : World} {k b : Nat} {vs : List Value} (h : Cells w k vs) (us : List Value) (hn : k ≠ b) : Cells (w.setCells b 0 us) k vs := fun i x hx => by
  have h1 := World.rangeAt_setCells_apart h.range b 0 us (.inl hn) i x hx
  rw [Nat.zero_add] at h1
  exact ⟨h1, by rw [World.frozen?_setCells]; exact (h i x hx).2⟩
theorem infoS : (Try.prog.info? 67).map (·.size) = some 40 := by kernel_rfl

theorem plainB : Try.prog.plainKey 4 = true := by kernel_rfl
theorem cellsB : Try.prog.cellsOf 4 = 1 := by kernel_rfl
theorem infoB : (Try.prog.info? 4).map (fun i => (i.zero, i.size, i.bytes)) = some (some (.bool false), 1, 1) := by kernel_rfl
/-- One of an array of flags, by value. -/
theorem run_index_chi {t n : Nat} (hu : Try.prog.underlying t = some (.array n 4)) (P : Nat → Bool) {k : Nat} (hk : k < n) (w : World) :
    (Instr.index t (.agg (chi n P).toArray) (.int .i64 (k : Int))).run Try.prog w = .ok (.bool (P k)) w := by
  obtain ⟨i0, hi, _, hz1, _⟩ := info_parts infoB
  have h0 : (0 : Int) ≤ (k : Int) ∧ (k : Int) < (n : Int) := by omega
  have hx : (chi n P).toArray[k]? = some (.bool (P k)) := by rw [List.getElem?_toArray]; exact chi_at P hk
  simp [Instr.index, run_underlying hu, asIntOf, h0, run_sizeOf w hi, cellsB, run_part_plain w plainB hx, Sem.run_bind]
  intro h; omega
/-- Two arrays of flags, held against each other. -/
def alike (n : Nat) (P Q : Nat → Bool) : Bool := (List.range n).all fun j => P j == Q j
theorem run_items {n : Nat} (P Q : Nat → Bool) (d : Nat) (w : World) : ∀ is : List Nat, (∀ j ∈ is, j < n) → (Op.eqItems (d + 1) 4 1 (chi n P).toArray (chi n Q).toArray is).run Try.prog w = .ok (is.all fun j => P j == Q j) w
  | [], _ => by simp [Op.eqItems]
  | j :: is, h => by
    have hj := h j List.mem_cons_self
    have ih := run_items P Q d w is fun i hi => h i (List.mem_cons_of_mem _ hi)
    have hx : (chi n P).toArray[j]? = some (.bool (P j)) := by rw [List.getElem?_toArray]; exact chi_at P hj
    have hy : (chi n Q).toArray[j]? = some (.bool (Q j)) := by rw [List.getElem?_toArray]; exact chi_at Q hj
    simp only [Op.eqItems, Sem.run_bind, Nat.mul_one, run_part_plain w plainB hx, run_part_plain w plainB hy, Result.andThen_ok, run_equalIn_bool' w d 4 (P j) (Q j) Try.underlying4, List.all_cons]
    cases hpq : (P j == Q j)
    · simp
    · simpa using ih
theorem alike_iff {n : Nat} {P Q : Nat → Bool} : alike n P Q = true ↔ ∀ j, j < n → P j = Q j := by simp [alike]

/-- The numbers below k in a set, rising. -/
def risL (P : Nat → Bool) (k : Nat) : List Int := ((List.range k).filter P).map fun (j : Nat) => (j : Int)
theorem risL_succ (P : Nat → Bool) (k : Nat) : risL P (k + 1) = risL P k ++ (if P k then [(k : Int)] else []) := by
  unfold risL
  rw [List.range_succ, List.filter_append, List.map_append]
  cases h : P k <;> simp [h]
theorem risL_len (P : Nat → Bool) (k : Nat) : (risL P k).length ≤ k := by
  unfold risL
  rw [List.length_map]
  have := List.length_filter_le P (List.range k)
  simpa using this
theorem risL_mem {P : Nat → Bool} {k : Nat} {x : Int} : x ∈ risL P k ↔ ∃ j : Nat, j < k ∧ P j = true ∧ x = (j : Int) := by
  unfold risL
  simp only [List.mem_map, List.mem_filter, List.mem_range]
  constructor
  · rintro ⟨j, ⟨h1, h2⟩, rfl⟩; exact ⟨j, h1, h2, rfl⟩
  · rintro ⟨j, h1, h2, rfl⟩; exact ⟨j, ⟨h1, h2⟩, rfl⟩
theorem risL_rise (P : Nat → Bool) (k : Nat) : Rise (risL P k) := by
  induction k with
  | zero => simp [risL]
  | succ k ih =>
    rw [risL_succ]
    refine List.pairwise_append.2 ⟨ih, by split <;> simp, fun x hx y hy => ?_⟩
    obtain ⟨j, hj, _, rfl⟩ := risL_mem.1 hx
    split at hy
    · simp at hy; subst hy; omega
    · simp at hy
set_option maxRecDepth 100000 in
set_option maxHeartbeats 1000000 in
theorem rising_at (P : Nat → Bool) (w : World) :
    Calls Try.prog 40 #[.agg (chi 40 P).toArray] w fun e w' => ∃ v, e = .returned v ∧ Grow w.heap.size w' v (risL P 40) ∧ Below w.heap.size w w' := by
  obtain ⟨i0, hif, hz0, hz1, hz2⟩ := info_parts infoN
  have C0 : Hid (Cells ((w.alloc (.cells (chi 40 P).toArray 67)).alloc (.cells #[] 2)) w.heap.size (chi 40 P)) := (Cells.new w _ rfl _ _).alloc _
  have hb0 : Below w.heap.size w ((w.alloc (.cells (chi 40 P).toArray 67)).alloc (.cells #[] 2)) := ((Below.refl _ _).alloc (Nat.le_refl _) _).alloc (by simp) _
  have HG0 : Hid (Grow w.heap.size ((w.alloc (.cells (chi 40 P).toArray 67)).alloc (.cells #[] 2)) (.slice (some ⟨w.heap.size + 1, 0, none⟩) 0 0) []) := grow_nil w _
  go_enter Try.func40, Try.ntmps40
  go_wp2_with (with_reducible refine wpList_load_mid rfl 67 (.tmp 1) rfl w.heap.size 0 (by simp [Act.eval]) (chi 40 P) _ C0.out.range Try.underlying67 rfl (by rw [infoS, chi_len]) ?_)
  clear C0
  go_loopw [3, 8] (fun v i wr => ∃ k : Nat, k ≤ 40 ∧ i = .int .i64 k ∧ Hid (Grow w.heap.size wr v (risL P k)) ∧ Below w.heap.size w wr) (fun _ i _ => 40 - (intOf i).toNat)
  case atStart => exact ⟨0, Nat.zero_le _, rfl, HG0.out, hb0⟩
  case round =>
    clear hb0 HG0
    obtain ⟨k, hk, rfl, hg, hb⟩ := hrel
    by_cases hlt : k < 40
    · have hx := run_index_chi Try.underlying67 P hlt wr
      have hki : (k : Int) < 40 := by omega
      obtain ⟨ga, ca, rfl⟩ := hg.out.form
      have HLN : Hid ((risL P k).length ≤ k) := risL_len P k
      have HB : Hid (w.heap.size ≤ wr.heap.size) := hb.size
      have HST : Hid (risL P (k + 1) = risL P k ++ (if P k then [(k : Int)] else [])) := risL_succ P k
      generalize hpk : P k = b at *
      cases b
      · have HG : Hid (Grow w.heap.size wr (.slice (some ⟨ga, 0, none⟩) (risL P k).length ca) (risL P (k + 1))) := by show Grow _ _ _ _; rw [HST.out]; simpa using hg.out
        clear hpk HST
        go_wp2
        go_roundw
        case rel => exact ⟨k + 1, by omega, by go_num, HG.out, hb⟩
        case measure => simp [intOf]; omega
      · clear hpk
        go_wp2_with (at_builtin; refine wpList_append_own _ rfl _ _ 27 rfl w.heap.size 2 i0 (.int .i64 0) 1 8 Try.underlying27 hif hz0 hz1 hz2 rfl (by decide) _ _ _ rfl (hg.out.1.alloc _) ⟨wr.heap.size, 0, none⟩ 1 1 [.int .i64 (k : Int)] rfl rfl (cell_one_new _ _ _) (by simp [Value.oneCell']) (by have := HLN.out; unfold maxLen; omega) (by have := HLN.out; omega) (by have := HB.out; simp; omega) ?_)
        intro v1 w1 hown1 hgrow1 hnil1
        have hb1 : Below w.heap.size w w1 := (hb.alloc hb.size _).grown hgrow1 (by have := HB.out; simp; omega) (fun q hq => by simp [Value.ownBlock] at hq; subst hq; exact (hg.out.1.lt ga rfl).1)
        have HG : Hid (Grow w.heap.size w1 v1 (risL P (k + 1))) := by
          show Grow _ _ _ _
          rw [HST.out]
          exact grow_next hown1 (fun h => by first | exact hnil1 h | exact absurd (hnil1.1 h).1 (by simp))
        clear hown1 hgrow1 hnil1 hg HST hx
        go_wp2
        go_roundw
        case rel => exact ⟨k + 1, by omega, by go_num, HG.out, hb1⟩
        case measure => simp [intOf]; omega
    · obtain rfl : k = 40 := by omega
      go_wp2
      go_ret
      exact ⟨_, rfl, hg.out, hb⟩
set_option maxRecDepth 100000 in
set_option maxHeartbeats 1000000 in
theorem addIn_at (q : Option Addr) (yc m : Nat) (hm : m ≤ 40) (n : Int) (b : Nat) (P : Nat → Bool) (w : World) (h : Cells w b (chi 40 P)) :
    Calls Try.prog 73 #[.pointer (some ⟨b, 0, none⟩), .slice q m yc, .int .i64 n] w fun e w' => e = .returned (.tuple #[]) ∧ Cells w' b (chi 40 fun j => P j || (decide (n = (j : Int)) && decide (j < m))) ∧ Only b w w' := by
  by_cases hn : 0 ≤ n ∧ n < (m : Int)
  · obtain ⟨k, rfl⟩ := Int.eq_ofNat_of_zero_le hn.1
    have hd0 : decide ((0 : Int) ≤ (k : Int)) = true := by simp
    have hd1 : decide ((k : Int) < (m : Int)) = true := by simp; omega
    have hk40 : k < 40 := by omega
    have hki : (k : Int) < 40 := by omega
    obtain ⟨c0, f0⟩ := h k _ (chi_at P hk40)
    have HC : Hid (Cells (w.setCell ⟨b, k, none⟩ (.bool true)) b (chi 40 fun j => P j || (decide (((k : Nat) : Int) = (j : Int)) && decide (j < m)))) := by
      have h1 := h.set k (.bool true)
      rw [chi_set] at h1
      rw [chi_congr (Q := fun j => if j = k then true else P j) (fun j hj => by
        by_cases e : j = k
        · subst e; simp; right; omega
        · have e' : ¬ ((k : Int) = (j : Int)) := by omega
          simp [e, e'])]
      exact h1
    clear h
    go_enter Try.func73, Try.ntmps73
    go_wp2_with fail
    refine (isBelow (k : Int) m w).mono ?_
    rw [hd0, hd1]
    rintro e _ ⟨rfl, rfl⟩
    go_wp2
    go_end0
    exact ⟨rfl, HC.out, (Only.refl _ _).set _ _⟩
  · have hd : (decide ((0 : Int) ≤ n) && decide (n < (m : Int))) = false := by simp; omega
    have HC : Hid (Cells w b (chi 40 fun j => P j || (decide (n = (j : Int)) && decide (j < m)))) := by
      show Cells _ _ _
      rw [chi_congr (Q := P) (fun j hj => by
        have : (decide (n = (j : Int)) && decide (j < m)) = false := by simp; omega
        rw [this, Bool.or_false])]
      exact h
    clear h
    go_enter Try.func73, Try.ntmps73
    go_wp2_with fail
    refine (isBelow n m w).mono ?_
    rw [hd]
    rintro e _ ⟨rfl, rfl⟩
    go_wp2
    go_end0
    exact ⟨rfl, HC.out, Only.refl _ _⟩
end Pg
end Go.Proofs.Ytffkkhaiedhaiaa

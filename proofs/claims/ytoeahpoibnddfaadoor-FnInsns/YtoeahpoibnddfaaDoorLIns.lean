/- The walk of the law FnInsns: over bytes of at most 4096 cells it returns true, and nothing old has turned. -/
import Derived.Test.YtoeahpoibnddfaaDoorDr3
import Derived.Test.YtoeahpoibnddfaaDoorLRead
namespace Go.Proofs.YtoeahpoibnddfaaDoor
namespace St
open Go.ChangeShapes Go.WideShapes Go.ChangeAt Go.RowKit

theorem shown_read (op x y : Int) : (Tx.shownI op x y).isEmpty = true → Tx.okI op x y = false := by
  intro h
  cases hk : Tx.okI op x y
  · rfl
  · simp [Tx.shownI, hk, Tx.showI] at h
theorem shown_back (op x y : Int) (h : (Tx.shownI op x y).isEmpty = false) : Tx.readI (Tx.shownI op x y) = some (op, x, y) := by
  cases hk : Tx.okI op x y
  · simp [Tx.shownI, hk] at h
  · simp only [Tx.shownI, hk, if_true]; exact Tx.readI_show hk

def showI' (op x y : Int) : ByteArray := ⟨(Tx.shownI op x y).toArray⟩
theorem read_back {t : ByteArray} {q : Tx.Ins} (h : Tx.readI t.data.toList = some q) : showI' q.1 q.2.1 q.2.2 = t ∧ ((-9223372036854775808 ≤ q.2.1 ∧ q.2.1 ≤ 9223372036854775807) ∧ -9223372036854775808 ≤ q.2.2 ∧ q.2.2 ≤ 9223372036854775807) := by
  obtain ⟨op, a, b⟩ := q
  obtain ⟨h1, h2⟩ := Tx.readI_sound h
  refine ⟨?_, ?_⟩
  · apply str_eq
    show Tx.shownI op a b = t.data.toList
    rw [Tx.shownI, if_pos h1]
    exact h2
  · have := Tx.ok_a h1
    have := Tx.ok_b h1
    dsimp only
    omega

theorem back_of {op x y : Int} {S : ByteArray} (h : (⟨(Tx.shownI op x y).toArray⟩ : ByteArray) = S) (he : S.toList.isEmpty = false) : Tx.readI S.data.toList = some (op, x, y) ∧ S.size ≤ 12 := by
  subst h
  have e : (⟨(Tx.shownI op x y).toArray⟩ : ByteArray).data.toList = Tx.shownI op x y := rfl
  rw [Lib.toList_data, e] at he
  refine ⟨by rw [e]; exact shown_back op x y he, ?_⟩
  rw [mk_size]
  cases hk : Tx.okI op x y
  · simp [Tx.shownI, hk]
  · rw [Tx.shownI, hk, if_pos rfl]; exact Tx.show_len hk
theorem empty_of {op x y : Int} {S : ByteArray} (h : (⟨(Tx.shownI op x y).toArray⟩ : ByteArray) = S) (he : S.toList.isEmpty = true) : Tx.okI op x y = false := by
  subst h
  have e : (⟨(Tx.shownI op x y).toArray⟩ : ByteArray).data.toList = Tx.shownI op x y := rfl
  rw [Lib.toList_data, e] at he
  exact shown_read op x y he

set_option maxRecDepth 100000 in
set_option maxHeartbeats 2000000 in
theorem insns_small (w : World) (a0 : Option Addr) (len cap : Nat) (hB : Cu.Bytes w.heap.size w a0 len) (hE : Env w.heap.size w) :
    Calls Tryd.prog 3 #[.slice a0 len cap] w fun e w' => e = .returned (.bool true) ∧ Below w.heap.size w w' := by
  have hl := hB.1
  have hnb : decide ((4096 : Int) < (len : Int)) = false := by simp; omega
  have HB : Hid (Cu.Bytes w.heap.size w a0 len) := hB
  have HE : Hid (Env w.heap.size w) := hE
  clear hB hE
  go_enter Tryd.func3, Tryd.ntmps3
  go_wp2_with fail
  refine (Cu.big_at _ _ _ _).mono ?_
  rintro e w1 ⟨rfl, rfl⟩
  go_wp2_with fail
  refine (Cu.drawShow_at w.heap.size _ _ _ _ HB.out (Nat.le_refl _)).mono ?_
  rintro e w1 ⟨op, x, y, rfl, bx, by', hb1⟩
  go_wp2_with fail
  obtain ⟨S, hS⟩ : ∃ S : ByteArray, (⟨(Tx.shownI op x y).toArray⟩ : ByteArray) = S := ⟨_, rfl⟩
  have HS : Hid ((⟨(Tx.shownI op x y).toArray⟩ : ByteArray) = S) := hS
  clear hS
  refine (implShow op x y bx.1 bx.2 by'.1 by'.2 w.heap.size _ (by have := hb1.size; simp; omega) (HE.out.on (hb1.alloc hb1.size _)).tab).mono ?_
  rw [HS.out]
  rintro e w2 ⟨rfl, hb2⟩
  have hw2 : Below w.heap.size w w2 := below_over (hb1.alloc hb1.size _) hb2
  have BI2 : Hid (Box w2 w1.heap.size (.int .i64 op) (.int .i64 x) (.int .i64 y)) := (Box.new w1 _ _ _ _).on hb2
  clear hb2
  go_wp2_with fail
  refine (Cu.drawRead_at w.heap.size _ _ _ _ (HB.out.below hw2) hw2.size).mono ?_
  rintro e w3 ⟨t, rfl, ht, hb3⟩
  have hw3 : Below w.heap.size w w3 := below_over hw2 hb3
  have BI3 : Hid (Box w3 w1.heap.size (.int .i64 op) (.int .i64 x) (.int .i64 y)) := BI2.out.on hb3
  clear hb3 hw2 BI2
  go_wp2_with fail
  have HRD : Hid (∃ r, Tx.readI t.data.toList = r) := ⟨_, rfl⟩
  obtain ⟨r, hr⟩ := HRD.out
  have HR : Hid (Tx.readI t.data.toList = r) := hr
  clear hr HRD
  obtain ⟨ro, hro⟩ : ∃ ro, opR r = ro := ⟨_, rfl⟩
  obtain ⟨ra, hra⟩ : ∃ ra, aR r = ra := ⟨_, rfl⟩
  obtain ⟨rb, hrb⟩ : ∃ rb, bR r = rb := ⟨_, rfl⟩
  obtain ⟨rq, hrq⟩ : ∃ rq, r.isSome = rq := ⟨_, rfl⟩
  have HRR : Hid (rq = true → showI' ro ra rb = t ∧ ((-9223372036854775808 ≤ ra ∧ ra ≤ 9223372036854775807) ∧ -9223372036854775808 ≤ rb ∧ rb ≤ 9223372036854775807)) := by
    show _ → _
    intro h
    rw [← hrq] at h
    rw [← hro, ← hra, ← hrb]
    cases r with
    | none => simp at h
    | some q => exact read_back HR.out
  have HEQ : Hid (opR r = ro ∧ aR r = ra ∧ bR r = rb ∧ r.isSome = rq) := ⟨hro, hra, hrb, hrq⟩
  clear hro hra hrb hrq
  refine (implRead t (by omega) w.heap.size _ hw3.size (HE.out.on hw3)).mono ?_
  unfold insV
  rw [HR.out, HEQ.out.1, HEQ.out.2.1, HEQ.out.2.2.1, HEQ.out.2.2.2]
  rintro e w4 ⟨rfl, hb4⟩
  have hw4 : Below w.heap.size w w4 := below_over hw3 hb4
  have BI4 : Hid (Box w4 w1.heap.size (.int .i64 op) (.int .i64 x) (.int .i64 y)) := BI3.out.on hb4
  clear hb4 hw3 BI3
  go_wp2_with fail
  refine (specRead t (by omega) _).mono ?_
  unfold insV
  rw [HR.out, HEQ.out.1, HEQ.out.2.1, HEQ.out.2.2.1, HEQ.out.2.2.2]
  rintro e w5 ⟨rfl, hb5⟩
  have BX5 : Hid (Box w5 w4.heap.size (.int .i64 ro) (.int .i64 ra) (.int .i64 rb)) := (Box.new w4 _ _ _ _).on hb5
  have BI5 : Hid (Box w5 w1.heap.size (.int .i64 op) (.int .i64 x) (.int .i64 y)) := (BI4.out.on ((Below.refl _ _).alloc (Nat.le_refl _) _)).on hb5
  have hw5 : Below w.heap.size w w5 := below_over (hw4.alloc hw4.size _) hb5
  clear hb5 hw4 BI4
  go_wp2_with fail
  obtain ⟨W, hW⟩ : ∃ W : World, W = w5.alloc (.cells #[.int .i64 ro, .int .i64 ra, .int .i64 rb] 25) := ⟨_, rfl⟩
  rw [← hW]
  have hbW : Below w5.heap.size w5 W := by rw [hW]; exact (Below.refl _ _).alloc (Nat.le_refl _) _
  have BXW := BX5.out.on hbW
  have BIW := BI5.out.on hbW
  have BYW : Box W w5.heap.size (.int .i64 ro) (.int .i64 ra) (.int .i64 rb) := by rw [hW]; exact Box.new w5 _ _ _ _
  have hwW : Below w.heap.size w W := below_over hw5 hbW
  clear hW hbW BX5 BI5
  have x0 := cell_regrown BXW.c0
  have x1 := cell_regrown BXW.c1
  have x2 := cell_regrown BXW.c2
  have y0 := cell_regrown BYW.c0
  have y1 := cell_regrown BYW.c1
  have y2 := cell_regrown BYW.c2
  have z0 := cell_regrown BIW.c0
  have z1 := cell_regrown BIW.c1
  have z2 := cell_regrown BIW.c2
  have cS : ∀ d os, Calls Tryd.prog 10 #[.agg #[.int .i64 op, .int .i64 x, .int .i64 y]] (Sort.grow (redrawn W d) os) fun e w'' => e = .returned (.string S) ∧ ∃ p : Regrown, w'' = Sort.grow (redrawn W p.d) p.os := by
    intro d os
    rw [← HS.out]
    exact Calls.regrown_of (specShow op x y bx.1 bx.2 by'.1 by'.2 _)
  have cI : ∀ d os, Calls Tryd.prog 11 #[.agg #[.int .i64 op, .int .i64 x, .int .i64 y]] (Sort.grow (redrawn W d) os) fun e w'' => e = .returned (.bool (Tx.okI op x y)) ∧ ∃ p : Regrown, w'' = Sort.grow (redrawn W p.d) p.os := fun d os => Calls.regrown_of (implOk op x y _)
  have cK : ∀ d os, Calls Tryd.prog 12 #[.agg #[.int .i64 op, .int .i64 x, .int .i64 y]] (Sort.grow (redrawn W d) os) fun e w'' => e = .returned (.bool (Tx.okI op x y)) ∧ ∃ p : Regrown, w'' = Sort.grow (redrawn W p.d) p.os := fun d os => Calls.regrown_of (specOk op x y _)
  refine wp_region_quiet_below (by kernel_rfl) (by kernel_rfl) ?_
  repeat (quiet_step (first | (go_at_call 10; exact cS _ _) | (go_at_call 11; exact cI _ _) | (go_at_call 12; exact cK _ _)))
  refine wpQuiet_nil ?_
  intro _ hw'
  obtain ⟨⟨dq, osq⟩, hw''⟩ := hw'
  subst hw''
  have hwV : Below w.heap.size w (Sort.grow (redrawn W dq) osq) := below_over hwW (below_regrown W dq osq)
  have BXV : Hid (Box (Sort.grow (redrawn W dq) osq) w4.heap.size (.int .i64 ro) (.int .i64 ra) (.int .i64 rb)) := BXW.on (below_regrown W dq osq)
  have BIV : Hid (Box (Sort.grow (redrawn W dq) osq) w1.heap.size (.int .i64 op) (.int .i64 x) (.int .i64 y)) := BIW.on (below_regrown W dq osq)
  clear x0 x1 x2 y0 y1 y2 z0 z1 z2 cS cI cK BXW BIW BYW hwW
  generalize Sort.grow (redrawn W dq) osq = V at *
  cases hq : rq
  · have hwU := hwV
    have BIU := BIV
    obtain ⟨z0, z1, z2, _, _, _⟩ := BIU.out
    cases he : S.toList.isEmpty
    · have hrd := back_of HS.out he
      have HRD : Hid (Tx.readI S.data.toList = some (op, x, y)) := hrd.1
      have hsl := hrd.2
      clear hrd
      go_wp2_with fail
      refine (implRead S (by omega) w.heap.size _ hwU.size (HE.out.on hwU)).mono ?_
      unfold insV
      rw [HRD.out]
      simp only [opR, aR, bR, Option.isSome]
      rintro e w7 ⟨rfl, hb7⟩
      have hw7 : Below w.heap.size w w7 := below_over hwU hb7
      have BI7 := BIU.out.on hb7
      have BI8 := BI7.on ((Below.refl _ _).alloc (Nat.le_refl _) (.cells #[.int .i64 op, .int .i64 x, .int .i64 y] 25))
      clear hb7 z0 z1 z2
      obtain ⟨z0, z1, z2, _, _, _⟩ := BI8
      go_wp2_with fail
      go_ret
      exact ⟨rfl, hw7.alloc hw7.size _⟩
    · have HN : Hid (Tx.okI op x y = false) := empty_of HS.out he
      go_wp2_with fail
      refine (implOk op x y _).mono ?_
      rw [HN.out]
      rintro e w7 ⟨rfl, hb7⟩
      have hw7 : Below w.heap.size w w7 := below_over hwU hb7
      go_wp2
      go_ret
      exact ⟨rfl, hw7⟩
  · obtain ⟨h1, h2, h3⟩ := HRR.out hq
    obtain ⟨c0, c1, c2, _, _, _⟩ := BXV.out
    have H1 : Hid (showI' ro ra rb = t) := h1
    clear h1
    go_wp2_with fail
    refine (implShow ro ra rb h2.1 h2.2 h3.1 h3.2 w.heap.size _ hwV.size (HE.out.on hwV).tab).mono ?_
    rw [show (⟨(Tx.shownI ro ra rb).toArray⟩ : ByteArray) = t from H1.out]
    rintro e U ⟨rfl, hbU⟩
    have hwU : Below w.heap.size w U := below_over hwV hbU
    have BIU : Hid (Box U w1.heap.size (.int .i64 op) (.int .i64 x) (.int .i64 y)) := BIV.out.on hbU
    clear hbU c0 c1 c2 hwV BIV BXV
    obtain ⟨z0, z1, z2, _, _, _⟩ := BIU.out
    cases he : S.toList.isEmpty
    · have hrd := back_of HS.out he
      have HRD : Hid (Tx.readI S.data.toList = some (op, x, y)) := hrd.1
      have hsl := hrd.2
      clear hrd
      go_wp2_with fail
      refine (implRead S (by omega) w.heap.size _ hwU.size (HE.out.on hwU)).mono ?_
      unfold insV
      rw [HRD.out]
      simp only [opR, aR, bR, Option.isSome]
      rintro e w7 ⟨rfl, hb7⟩
      have hw7 : Below w.heap.size w w7 := below_over hwU hb7
      have BI7 := BIU.out.on hb7
      have BI8 := BI7.on ((Below.refl _ _).alloc (Nat.le_refl _) (.cells #[.int .i64 op, .int .i64 x, .int .i64 y] 25))
      clear hb7 z0 z1 z2
      obtain ⟨z0, z1, z2, _, _, _⟩ := BI8
      go_wp2_with fail
      go_ret
      exact ⟨rfl, hw7.alloc hw7.size _⟩
    · have HN : Hid (Tx.okI op x y = false) := empty_of HS.out he
      go_wp2_with fail
      refine (implOk op x y _).mono ?_
      rw [HN.out]
      rintro e w7 ⟨rfl, hb7⟩
      have hw7 : Below w.heap.size w w7 := below_over hwU hb7
      go_wp2
      go_ret
      exact ⟨rfl, hw7⟩

set_option maxRecDepth 100000 in
theorem insns_big (w : World) (a0 : Option Addr) (len cap : Nat) (hl : ¬ len ≤ 4096) :
    Calls Tryd.prog 3 #[.slice a0 len cap] w fun e w' => e = .returned (.bool true) ∧ Below w.heap.size w w' := by
  have hnb : decide ((4096 : Int) < (len : Int)) = true := by simp; omega
  go_enter Tryd.func3, Tryd.ntmps3
  go_wp2_with (go_at_call 4; refine (Cu.big_at _ _ _ _).mono ?_; rintro e w1 ⟨rfl, rfl⟩)
  go_ret
  exact ⟨rfl, Below.refl _ _⟩
end St
end Go.Proofs.YtoeahpoibnddfaaDoor

/- Contracts of the program's own small functions on programs. -/
import Derived.Test.YtcbbpmknomhedaaJHi0
import Derived.Test.YtcbbpmknomhedaaJLo1
import Derived.Test.YtcbbpmknomhedaaJGr0
import Derived.RangeFuncNested
import Derived.RangeFuncBound
import Derived.RangeFuncCalls
import Derived.RangeFuncLeaves
import Derived.Shelf.Abstract
import Derived.Shelf.RegionOpen
import Derived.WalkKit
import Derived.OwnWalkIn
import Derived.TacticsInMore
import Derived.LoopNIn
import Derived.LoopIn
import Derived.Deep.RegionHeld3
import Derived.OrdersIn
import Derived.Deep.MidRow
namespace Go.Proofs.Ytcbbpmknomhedaa
namespace Pg
open Go.ChangeShapes Go.WideShapes Go.ChangeAt Go.RowKit St

set_option maxHeartbeats 400000 in
theorem hasClass (a : Option Addr) (n cap : Nat) (t : Int) (w : World) :
    Calls Try.prog 33 #[.agg #[.slice a n cap], .int .i64 t] w fun e w' => e = .returned (.bool (decide (0 ≤ t) && decide (t < (n : Int)))) ∧ Below w.heap.size w w' := by
  go_enter Try.func33, Try.ntmps33
  go_wp2_with fail
  refine (isBelow t n _).mono ?_
  rintro e w1 ⟨rfl, rfl⟩
  go_wp2
  go_ret
  exact ⟨rfl, (Below.refl _ _).alloc (Nat.le_refl _) _⟩

set_option maxHeartbeats 800000 in
theorem areTypesOf {f : Bool} (B : Nat) (a a' : Option Addr) (n cap cap' : Nat) (l : List Int) (hl : l.length ≤ 1048576) (w : World) (hi : SI f B w (.slice a' l.length cap') l) :
    Calls Try.prog 72 #[.agg #[.slice a n cap], .slice a' l.length cap'] w fun e w' => e = .returned (.bool (l.all (tyB n))) ∧ Below w.heap.size w w' := by
  have HI : Hid (SI f B (w.alloc (.cells #[.slice a n cap] 26)) (.slice a' l.length cap') l) := SI.on hi (Keep.of ((Below.refl _ _).alloc (Nat.le_refl _) _))
  have C0 : Hid (Cells (w.alloc (.cells #[.slice a n cap] 26)) w.heap.size [.slice a n cap]) := Cells.new w _ rfl _ _
  clear hi
  go_enter Try.func72, Try.ntmps72
  go_wp2
  generalize hW : w.alloc (.cells #[.slice a n cap] 26) = W at *
  have hwW : Below w.heap.size w W := by rw [← hW]; exact (Below.refl _ _).alloc (Nat.le_refl _) _
  clear hW
  go_loopw [9] (fun i wr => ∃ k : Nat, k ≤ l.length ∧ i = .int .i64 k ∧ Hid ((l.take k).all (tyB n) = true) ∧ Below W.heap.size W wr) (fun i _ => l.length - (intOf i).toNat)
  case atStart => exact ⟨0, Nat.zero_le _, rfl, rfl, Below.refl _ _⟩
  case round =>
    obtain ⟨k, hk, rfl, hall, hb⟩ := hrel
    by_cases hlt : k < l.length
    · obtain ⟨b, o, rfl, _, c1⟩ := (SI.on HI.out (Keep.of hb)).get hlt
      unfold IntAt at c1
      rw [Nat.mul_one] at c1
      have c0 := (C0.out.on hb).g0.1
      have HT : Hid (tyB n l[k] = true → (l.take (k + 1)).all (tyB n) = true) := fun h => take_all hlt hall.out h
      have HF : Hid (tyB n l[k] = false → l.all (tyB n) = false) := fun h => all_no hlt h
      generalize l[k] = t at *
      have hki : (k : Int) < (l.length : Int) := by omega
      have hw1 : Below w.heap.size w wr := below_over hwW hb
      by_cases ht : t = -1
      · subst ht
        have HA := HT.out (by simp [tyB])
        have HAA : Hid ((l.take (k + 1)).all (tyB n) = true) := HA
        clear HA HT HF hall
        go_wp2
        go_roundw
        case rel => exact ⟨k + 1, by omega, by go_num, HAA.out, hb⟩
        case measure => simp [intOf]; omega
      · have htb : (t != -1) = true := by simpa using ht
        go_wp2_with fail
        refine (hasClass a n cap t _).mono ?_
        rintro e w1 ⟨rfl, hb1⟩
        have hw2 : Below W.heap.size W w1 := below_over hb hb1
        clear hb1 hb c0 c1
        cases hq : (decide (0 ≤ t) && decide (t < (n : Int)))
        · have HA : Hid (l.all (tyB n) = false) := HF.out (by unfold tyB; rw [hq]; simp [ht])
          go_wp2
          go_ret
          exact ⟨retB HA.out.symm, below_over hwW hw2⟩
        · have HA : Hid ((l.take (k + 1)).all (tyB n) = true) := HT.out (by unfold tyB; rw [hq]; simp)
          clear HT HF hall
          go_wp2
          go_roundw
          case rel => exact ⟨k + 1, by omega, by go_num, HA.out, hw2⟩
          case measure => simp [intOf]; omega
    · have HN : Hid (l.all (tyB n) = true) := by
        show _ = _
        have e : l.take k = l := List.take_of_length_le (by omega)
        have := hall.out
        rw [e] at this
        exact this
      go_wp2
      go_ret
      exact ⟨retB HN.out.symm, below_over hwW hb⟩

theorem diff_no {l r : List Int} {k : Nat} (h1 : k < l.length) (h2 : k < r.length) (h : l[k] ≠ r[k]) : decide (l = r) = false := by
  simp only [decide_eq_false_iff_not]
  intro e
  subst e
  exact h rfl
theorem same_take {l r : List Int} {k : Nat} (h1 : k < l.length) (h2 : k < r.length) (h : l.take k = r.take k) (he : l[k] = r[k]) : l.take (k + 1) = r.take (k + 1) := by
  rw [List.take_succ_eq_append_getElem h1, List.take_succ_eq_append_getElem h2, h, he]

set_option maxHeartbeats 1000000 in
theorem slicesEqual {f f' : Bool} (B B' : Nat) (a a' : Option Addr) (cap cap' : Nat) (l r : List Int) (hl : l.length ≤ 1048576) (w : World) (h1 : SI f B w (.slice a l.length cap) l) (h2 : SI f' B' w (.slice a' r.length cap') r) :
    Calls Try.prog 86 #[.slice a l.length cap, .slice a' r.length cap'] w fun e w' => e = .returned (.bool (decide (l = r))) ∧ Below w.heap.size w w' := by
  have H1 : Hid (SI f B w (.slice a l.length cap) l) := h1
  have H2 : Hid (SI f' B' w (.slice a' r.length cap') r) := h2
  clear h1 h2
  by_cases hlen : l.length = r.length
  · have HLEN : Hid (l.length = r.length) := hlen
    rw [← hlen]
    clear hlen
    go_enter Try.func86, Try.ntmps86
    go_wp2
    go_loopw [13] (fun i wr => ∃ k : Nat, k ≤ l.length ∧ i = .int .i64 k ∧ Hid (l.take k = r.take k) ∧ Below w.heap.size w wr) (fun i _ => l.length - (intOf i).toNat)
    case atStart => exact ⟨0, Nat.zero_le _, rfl, rfl, Below.refl _ _⟩
    case round =>
      obtain ⟨k, hk, rfl, hsame, hb⟩ := hrel
      by_cases hlt : k < l.length
      · have hlr : k < r.length := by rw [← HLEN.out]; exact hlt
        obtain ⟨b, o, rfl, _, a0⟩ := (SI.on H1.out (Keep.of hb)).get hlt
        obtain ⟨b', o', rfl, _, b0⟩ := (SI.on H2.out (Keep.of hb)).get hlr
        unfold IntAt at a0 b0
        rw [Nat.mul_one] at a0 b0
        have HT : Hid (l[k] = r[k] → l.take (k + 1) = r.take (k + 1)) := fun h => same_take hlt hlr hsame.out h
        have HF : Hid (l[k] ≠ r[k] → decide (l = r) = false) := fun h => diff_no hlt hlr h
        generalize l[k] = x at *
        generalize r[k] = y at *
        clear hlr hsame
        have hki : (k : Int) < (l.length : Int) := by omega
        have hki0 : (0 : Int) ≤ (k : Int) := by omega
        have r0 := cell_regrown a0
        have s0 := cell_regrown b0
        by_cases hxy : x = y
        · subst hxy
          have HS : Hid (l.take (k + 1) = r.take (k + 1)) := HT.out rfl
          clear HT HF
          go_wp2_with fail
          refine wp_region_quiet_below (by kernel_rfl) (by kernel_rfl) ?_
          repeat (quiet_step (fail))
          refine wpQuiet_nil ?_
          intro _ hw'
          obtain ⟨⟨dq, osq⟩, hw''⟩ := hw'
          subst hw''
          have hw1 : Below w.heap.size w (Sort.grow (redrawn wr dq) osq) := below_over hb (below_regrown wr dq osq)
          clear a0 b0 r0 s0 hb
          generalize Sort.grow (redrawn wr dq) osq = w1 at *
          go_wp2
          go_roundw
          case rel => exact ⟨k + 1, by omega, by go_num, HS.out, hw1⟩
          case measure => simp [intOf]; omega
        · have HS : Hid (decide (l = r) = false) := HF.out hxy
          have hxb : (x != y) = true := by simpa using hxy
          clear HT HF
          go_wp2_with fail
          refine wp_region_quiet_below (by kernel_rfl) (by kernel_rfl) ?_
          repeat (quiet_step (fail))
          refine wpQuiet_nil ?_
          intro _ hw'
          obtain ⟨⟨dq, osq⟩, hw''⟩ := hw'
          subst hw''
          have hw1 : Below w.heap.size w (Sort.grow (redrawn wr dq) osq) := below_over hb (below_regrown wr dq osq)
          clear a0 b0 r0 s0 hb
          generalize Sort.grow (redrawn wr dq) osq = w1 at *
          go_wp2
          go_ret
          exact ⟨retB HS.out.symm, hw1⟩
      · have HN : Hid (decide (l = r) = true) := by
          show _ = _
          have h := hsame.out
          rw [List.take_of_length_le (by omega), List.take_of_length_le (by have := HLEN.out; omega)] at h
          simpa using h
        go_wp2
        go_ret
        exact ⟨retB HN.out.symm, hb⟩
  · have HN : Hid (decide (l = r) = false) := by
      show _ = _
      simp only [decide_eq_false_iff_not]
      intro e; exact hlen (by rw [e])
    have hnb : ((l.length : Int) != (r.length : Int)) = true := by
      have : ¬ (l.length : Int) = (r.length : Int) := by omega
      simpa using this
    go_enter Try.func86, Try.ntmps86
    go_wp2
    go_ret
    exact ⟨retB HN.out.symm, Below.refl _ _⟩

/-- What looking for a class's own method answers. -/
def OwnPost (B : Nat) (c : Cls) (name : Int) (w0 w : World) (e : Ending) (w' : World) : Prop :=
  ((∃ m va vc, ownF c name = some m ∧ m ∈ c.meths ∧ e = .returned (.tuple #[.agg #[.int .i64 m.name, va, .int .i64 m.gives, vc], .bool true]) ∧ MV front B w0 va vc m) ∨
   (ownF c name = none ∧ e = .returned (.tuple #[.agg #[.int .i64 0, .slice none 0 0, .int .i64 0, .slice none 0 0], .bool false]))) ∧ Below w.heap.size w w'

set_option maxRecDepth 100000 in
set_option maxHeartbeats 1000000 in
theorem ownMethod (B : Nat) (c : Cls) (q a : Option Addr) (cap af cf : Nat) (name : Int) (hn : c.meths.length ≤ 1048576) (w0 w : World) (hb0 : Below w0.heap.size w0 w) (hm : SM front B w0 (.slice a c.meths.length cap) c.meths) :
    Calls Try.prog 26 #[.agg #[.int .i64 c.super, .slice q af cf, .slice a c.meths.length cap], .int .i64 name] w fun e w' => OwnPost B c name w0 w e w' := by
  obtain ⟨W, hW⟩ : ∃ W, W = (w.alloc (.cells #[.int .i64 c.super, .slice q af cf, .slice a c.meths.length cap] 51)).alloc (.cells #[.int .i64 0, .slice none 0 0, .int .i64 0, .slice none 0 0] 38) := ⟨_, rfl⟩
  have hwW : Below w.heap.size w W := by rw [hW]; exact ((Below.refl _ _).alloc (Nat.le_refl _) _).alloc (by simp) _
  have HM : Hid (SM front B w0 (.slice a c.meths.length cap) c.meths) := hm
  have R0 : Hid (Cells W (w.heap.size + 1) [.int .i64 0, .slice none 0 0, .int .i64 0, .slice none 0 0]) := by rw [hW]; exact Cells.new (w.alloc _) _ (by simp) _ _
  clear hm
  go_enter Try.func26, Try.ntmps26
  go_wp2
  rw [← hW]
  clear hW
  go_loopw [11] (fun i wr => ∃ k : Nat, k ≤ c.meths.length ∧ i = .int .i64 k ∧ Hid (∀ j, j < k → ∀ m, c.meths[j]? = some m → m.name ≠ name) ∧ Below W.heap.size W wr) (fun i _ => c.meths.length - (intOf i).toNat)
  case atStart => exact ⟨0, Nat.zero_le _, rfl, fun j h => absurd h (Nat.not_lt_zero _), Below.refl _ _⟩
  case round =>
    obtain ⟨k, hk, rfl, hno, hb⟩ := hrel
    have hwr : Below w.heap.size w wr := below_over hwW hb
    by_cases hlt : k < c.meths.length
    · obtain ⟨b, o, rfl, _, va, vc, d0, d1, d2, d3, hmv⟩ := HM.out.get hlt
      obtain ⟨x1, y1, rfl⟩ := hmv.1.form
      obtain ⟨x2, y2, rfl⟩ := front.form hmv.2
      have l0 : b < w0.heap.size := cell_lt d0
      have hw0 : Below w0.heap.size w0 wr := below_over hb0 hwr
      have c0 := (hw0.cell l0).trans d0
      have c1 := (hw0.cell l0).trans d1
      have c2 := (hw0.cell l0).trans d2
      have c3 := (hw0.cell l0).trans d3
      clear hw0
      have HK : Hid (c.meths[k].name = name → ownF c name = some c.meths[k]) := fun h => find_at hno.out (List.getElem?_eq_getElem hlt) h
      have HKN : Hid (c.meths[k].name ≠ name → ∀ j, j < k + 1 → ∀ m, c.meths[j]? = some m → m.name ≠ name) := fun h j hj m hm => by
        by_cases e : j = k
        · subst e
          rw [List.getElem?_eq_getElem hlt] at hm
          simp at hm
          subst hm
          exact h
        · exact hno.out j (by omega) m hm
      have HMEM : Hid (c.meths[k] ∈ c.meths) := List.getElem_mem hlt
      have HMV : Hid (MV front B w0 (.slice x1 c.meths[k].args.length y1) (.slice x2 c.meths[k].code.length y2) c.meths[k]) := hmv
      clear hmv hno d0 d1 d2 d3
      generalize c.meths[k] = m at *
      have hki : (k : Int) < (c.meths.length : Int) := by omega
      by_cases hnm : m.name = name
      · have HO : Hid (ownF c name = some m) := HK.out hnm
        have RA := (R0.out.on hb).alloc (.cells #[.int .i64 m.name, .slice x1 m.args.length y1, .int .i64 m.gives, .slice x2 m.code.length y2] 38)
        obtain ⟨r0, q0⟩ := RA.g0
        obtain ⟨r1, q1⟩ := RA.g1
        obtain ⟨r2, q2⟩ := RA.g2
        obtain ⟨r3, q3⟩ := RA.g3
        have R5 := (((RA.s0 (.int .i64 m.name)).s1 (.slice x1 m.args.length y1)).s2 (.int .i64 m.gives)).s3 (.slice x2 m.code.length y2)
        obtain ⟨e0, _⟩ := R5.g0
        obtain ⟨e1, _⟩ := R5.g1
        obtain ⟨e2, _⟩ := R5.g2
        obtain ⟨e3, _⟩ := R5.g3
        have HWR : Hid (Below w.heap.size w ((((((wr.alloc (.cells #[.int .i64 m.name, .slice x1 m.args.length y1, .int .i64 m.gives, .slice x2 m.code.length y2] 38)).setCell ⟨w.heap.size + 1, 0, none⟩ (.int .i64 m.name)).setCell ⟨w.heap.size + 1, 1, none⟩ (.slice x1 m.args.length y1)).setCell ⟨w.heap.size + 1, 2, none⟩ (.int .i64 m.gives)).setCell ⟨w.heap.size + 1, 3, none⟩ (.slice x2 m.code.length y2)))) := ((((hwr.alloc hwr.size _).setCell (p := ⟨w.heap.size + 1, 0, none⟩) (by simp) _).setCell (p := ⟨w.heap.size + 1, 1, none⟩) (by simp) _).setCell (p := ⟨w.heap.size + 1, 2, none⟩) (by simp) _).setCell (p := ⟨w.heap.size + 1, 3, none⟩) (by simp) _
        have hnb : (m.name == name) = true := by simpa using hnm
        clear R5 RA HK HKN hb hwr hnm
        go_wp2
        refine bodyPost_ret (v := .tuple #[.agg #[.int .i64 m.name, .slice x1 m.args.length y1, .int .i64 m.gives, .slice x2 m.code.length y2], .bool true]) (by simp [results, Try.results26, go_sem, e0, e1, e2, e3]) rfl ?_
        exact ⟨.inl ⟨m, _, _, HO.out, HMEM.out, rfl, HMV.out⟩, HWR.out⟩
      · have HN : Hid (∀ j, j < k + 1 → ∀ m, c.meths[j]? = some m → m.name ≠ name) := HKN.out hnm
        have hnb : (m.name == name) = false := by simpa using hnm
        have HBB : Hid (Below W.heap.size W (wr.alloc (.cells #[.int .i64 m.name, .slice x1 m.args.length y1, .int .i64 m.gives, .slice x2 m.code.length y2] 38))) := hb.alloc hb.size _
        clear HK HKN hb hwr hnm
        go_wp2
        go_roundw
        case rel => exact ⟨k + 1, by omega, by go_num, HN.out, HBB.out⟩
        case measure => simp [intOf]; omega
    · have HN : Hid (ownF c name = none) := find_none (fun j hj m hm => hno.out j (by omega) m hm)
      have RA := R0.out.on hb
      obtain ⟨r0, q0⟩ := RA.g0
      obtain ⟨r1, q1⟩ := RA.g1
      obtain ⟨r2, q2⟩ := RA.g2
      obtain ⟨r3, q3⟩ := RA.g3
      have R5 := (((RA.s0 (.int .i64 0)).s1 (.slice none 0 0)).s2 (.int .i64 0)).s3 (.slice none 0 0)
      obtain ⟨e0, _⟩ := R5.g0
      obtain ⟨e1, _⟩ := R5.g1
      obtain ⟨e2, _⟩ := R5.g2
      obtain ⟨e3, _⟩ := R5.g3
      have HWR : Hid (Below w.heap.size w ((((wr.setCell ⟨w.heap.size + 1, 0, none⟩ (.int .i64 0)).setCell ⟨w.heap.size + 1, 1, none⟩ (.slice none 0 0)).setCell ⟨w.heap.size + 1, 2, none⟩ (.int .i64 0)).setCell ⟨w.heap.size + 1, 3, none⟩ (.slice none 0 0))) := (((hwr.setCell (p := ⟨w.heap.size + 1, 0, none⟩) (by simp) _).setCell (p := ⟨w.heap.size + 1, 1, none⟩) (by simp) _).setCell (p := ⟨w.heap.size + 1, 2, none⟩) (by simp) _).setCell (p := ⟨w.heap.size + 1, 3, none⟩) (by simp) _
      clear R5 RA hb hwr hno
      go_wp2
      refine bodyPost_ret (v := .tuple #[.agg #[.int .i64 0, .slice none 0 0, .int .i64 0, .slice none 0 0], .bool false]) (by simp [results, Try.results26, go_sem, e0, e1, e2, e3]) rfl ?_
      exact ⟨.inr ⟨HN.out, rfl⟩, HWR.out⟩

set_option maxHeartbeats 1000000 in
theorem isMethodOf (B : Nat) (m : Meth) (a : Option Addr) (n cap : Nat) (va vc : Value) (hs : SmallM m) (w : World) (hv : MV front B w va vc m) :
    Calls Try.prog 73 #[.agg #[.slice a n cap], .agg #[.int .i64 m.name, va, .int .i64 m.gives, vc]] w fun e w' => e = .returned (.bool (okMB n m)) ∧ Below w.heap.size w w' := by
  obtain ⟨x1, y1, rfl⟩ := hv.1.form
  obtain ⟨gc, y2, rfl, _, _, hrow, _⟩ := hv.2
  have HI : Hid (SI true B w (.slice x1 m.args.length y1) m.args) := hv.1
  have HR : Hid (Row w gc 0 m.code) := hrow
  have hs1 := hs.1
  have hs2 := hs.2
  clear hv hrow hs
  obtain ⟨W, hW⟩ : ∃ W, W = (w.alloc (.cells #[.slice a n cap] 26)).alloc (.cells #[.int .i64 m.name, .slice x1 m.args.length y1, .int .i64 m.gives, .slice (some ⟨gc, 0, none⟩) m.code.length y2] 38) := ⟨_, rfl⟩
  have hwW : Below w.heap.size w W := by rw [hW]; exact ((Below.refl _ _).alloc (Nat.le_refl _) _).alloc (by simp) _
  have P0 : Hid (Cells W w.heap.size [.slice a n cap]) := by rw [hW]; exact (Cells.new w _ rfl _ _).alloc _
  have M0 : Hid (Cells W (w.heap.size + 1) [.int .i64 m.name, .slice x1 m.args.length y1, .int .i64 m.gives, .slice (some ⟨gc, 0, none⟩) m.code.length y2]) := by rw [hW]; exact Cells.new (w.alloc _) _ (by simp) _ _
  obtain ⟨nm, hnm⟩ : ∃ nm, nm = (decide (0 ≤ m.name) && decide (m.name < 20)) := ⟨_, rfl⟩
  obtain ⟨p0, _⟩ := P0.out.g0
  obtain ⟨m0, _⟩ := M0.out.g0
  obtain ⟨m1, _⟩ := M0.out.g1
  have HOK : Hid (okMB n m = (nm && decide (m.args.length ≤ 3) && m.args.all (tyB n) && tyB n m.gives && Lay.codeOk m.code)) := by
    show _ = _
    unfold okMB
    rw [hnm]
    have e : decide (m.name < 20) = decide (m.name ≤ 19) := by rw [Bool.eq_iff_iff]; simp; omega
    rw [e]
  go_enter Try.func73, Try.ntmps73
  go_wp2_with fail
  rw [← hW]
  clear hW
  refine (isBelow m.name 20 _).mono ?_
  rw [← hnm]
  rintro e w1 ⟨rfl, rfl⟩
  clear hnm
  cases nm
  · have HF : Hid (okMB n m = false) := by show _ = _; rw [HOK.out]; simp
    go_wp2
    go_ret
    exact ⟨retB HF.out.symm, hwW⟩
  · by_cases h3 : m.args.length ≤ 3
    · have h3i : ¬ (3 : Int) < (m.args.length : Int) := by omega
      go_wp2_with fail
      refine (areTypesOf B a x1 n cap y1 m.args hs1 _ (SI.on HI.out (Keep.of hwW))).mono ?_
      rintro e w2 ⟨rfl, hb2⟩
      have hw2 : Below w.heap.size w w2 := below_over hwW hb2
      obtain ⟨p2, _⟩ := (P0.out.on hb2).g0
      obtain ⟨n2, _⟩ := (M0.out.on hb2).g2
      cases ht : m.args.all (tyB n)
      · have HF : Hid (okMB n m = false) := by show _ = _; rw [HOK.out, ht]; simp
        go_wp2
        go_ret
        exact ⟨retB HF.out.symm, hw2⟩
      · have M2 : Hid (Cells w2 (w.heap.size + 1) [.int .i64 m.name, .slice x1 m.args.length y1, .int .i64 m.gives, .slice (some ⟨gc, 0, none⟩) m.code.length y2]) := M0.out.on hb2
        clear hb2
        go_wp2_with fail
        have hsi : SI false w2.heap.size (w2.alloc (.cells #[.int .i64 m.gives] 2)) (.slice (some ⟨w2.heap.size, 0, none⟩) [m.gives].length 1) [m.gives] :=
          SI.row (Nat.le_refl _) (by simp) (fun j x hj => by
            match j, hj with
            | 0, hj => simp at hj; subst hj; simp) (fun j hj => by
            match j, hj with
            | 0, _ => exact ⟨⟨.int .i64 m.gives, by simp⟩, by simp⟩)
        refine (areTypesOf w2.heap.size a (some ⟨w2.heap.size, 0, none⟩) n cap 1 [m.gives] (by simp) _ hsi).mono ?_
        rintro e w3 ⟨rfl, hb3⟩
        have hw3 : Below w.heap.size w w3 := below_over (hw2.alloc hw2.size _) hb3
        have eg : [m.gives].all (tyB n) = tyB n m.gives := by simp
        rw [eg]
        clear hsi eg
        obtain ⟨n3, _⟩ := ((M2.out.alloc (.cells #[.int .i64 m.gives] 2)).on hb3).g3
        clear hb3
        cases hg : tyB n m.gives
        · have HF : Hid (okMB n m = false) := by show _ = _; rw [HOK.out, hg]; simp
          go_wp2
          go_ret
          exact ⟨retB HF.out.symm, hw3⟩
        · go_wp2_with fail
          refine (implCodeOk gc y2 m.code hs2 _ (HR.out.on hw3)).mono ?_
          rintro e w4 ⟨rfl, hb4⟩
          have hw4 : Below w.heap.size w w4 := below_over hw3 hb4
          have HF : Hid (okMB n m = Lay.codeOk m.code) := by show _ = _; rw [HOK.out, ht, hg]; simp [h3]
          clear hb4
          go_wp2
          go_ret
          exact ⟨retB HF.out.symm, hw4⟩
    · have HF : Hid (okMB n m = false) := by show _ = _; rw [HOK.out]; simp [h3]
      have h3i : (3 : Int) < (m.args.length : Int) := by omega
      go_wp2
      go_ret
      exact ⟨retB HF.out.symm, hwW⟩
end Pg
end Go.Proofs.Ytcbbpmknomhedaa

/- Ranges over functions: what a round keeps; regions that draw their order in a round; whole arrays in a round; marks of rounds behind one another. -/
namespace Go.Proofs.Ytcbbpmknomhedaa
namespace Pg
open Go.ChangeShapes Go.WideShapes Go.ChangeAt Go.RowKit Go.Shelf St
attribute [local go_sem] Oper.semAt_some

/-- Nothing below n₀ has turned, nor has one of these blocks. -/
def Kp (n₀ : Nat) (bs : List Nat) (W W' : World) : Prop := Below n₀ W W' ∧ ∀ b ∈ bs, b < W.heap.size → W'.heap[b]? = W.heap[b]?
theorem Kp.refl (n₀ : Nat) (bs : List Nat) (W : World) : Kp n₀ bs W W := ⟨Below.refl _ _, fun _ _ _ => rfl⟩
theorem kp_t {n₀ : Nat} {bs : List Nat} {A B C : World} (h : Kp n₀ bs A B) (k : Kp n₀ bs B C) : Kp n₀ bs A C :=
  ⟨h.1.trans k.1, fun b hb hl => (k.2 b hb (Nat.lt_of_lt_of_le hl h.1.size)).trans (h.2 b hb hl)⟩
theorem kp_b {n₀ : Nat} {bs : List Nat} {w : World} (hn : n₀ ≤ w.heap.size) (hbs : ∀ b ∈ bs, b < w.heap.size) (W : World) (l : Nat) (o o' : Obj) (hl : w.heap.size ≤ l) (h : W.heap[l]? = some o) (h1 : o.isCells = false) (h2 : o.isWalk = false) : Kp n₀ bs W (W.putObj l o') :=
  ⟨belowK_b hn W l o o' hl h h1 h2, fun b hb _ => World.putObj_heap_other (by have := hbs b hb; omega)⟩
theorem Kp.on {n₀ : Nat} {bs : List Nat} {W W' : World} (h : Below W.heap.size W W') (hn : n₀ ≤ W.heap.size) : Kp n₀ bs W W' := ⟨h.mono hn, fun b _ hl => h.block b hl⟩
theorem Kp.set {n₀ b₀ i : Nat} {bs : List Nat} (W : World) (hn : n₀ ≤ b₀) (hb : b₀ ∉ bs) (v : Value) : Kp n₀ bs W (W.setCell ⟨b₀, i, none⟩ v) :=
  ⟨(Below.refl _ _).setCell (p := ⟨b₀, i, none⟩) hn v, fun b hbs _ => Below.heap_setCell W ⟨b₀, i, none⟩ v b (fun e => hb (by subst e; exact hbs))⟩
theorem Kp.boxed {n₀ b : Nat} {bs : List Nat} {W W' : World} {t : TypeId} {v : Value} (h : Kp n₀ bs W W') (hb : b ∈ bs) (hx : Boxed W b t v) : Boxed W' b t v := (h.2 b hb hx.lt).trans hx
theorem keeps_of {W W' : World} (h : Below W.heap.size W W') : KeepsOthers W W' := KeepsOthers.of_grownBy (row := none) ⟨h.os, h.tape, h.output, h.size, fun k hk _ => h.block k hk⟩ (fun _ _ e => by cases e)

theorem oper_in {l n : Nat} {P : Program} {o : Oper} {a : Act} {w : World} {K : Act → World → Prop} {Q : Exit → Act → World → Prop} (h : ∀ c, o.op ≠ .defer c) (hh : Oper.wp P o a w K Q) : Oper.wpIn (Fence.wide.inRound l) n P o a w K Q := by
  refine ⟨fun _ _ => trivial, ?_⟩
  show o.uponIn _ n P a K Q ((o.semAt (some l) a.eval).run P w)
  rw [Oper.semAt_some l _ _ h]
  unfold Oper.wp at hh
  generalize (execOp a.eval o).run P w = r at *
  cases r with
  | ok x w' =>
    cases x <;> simp only [Oper.upon, Oper.uponIn] at hh ⊢ <;>
      first
        | exact hh
        | exact ⟨fun h => absurd h (by simp [Fence.wide, Fence.inRound]), callsIn_wide.2 hh⟩
        | exact ⟨fun h => absurd h (by simp [Fence.wide, Fence.inRound]), fun c cs _ => let ⟨v, w', r, s⟩ := hh c cs; ⟨v, w', r, stepsIn_wide.2 s⟩⟩
  | halt x w' => cases x <;> simp only [Oper.upon, Oper.uponIn] at hh ⊢ <;> exact hh
theorem wpOp_in {l n : Nat} {P : Program} {ops : Array Oper} {Q : Exit → Act → World → Prop} {i : Nat} {K : Act → World → Prop} {a : Act} {w : World} (hd : ∀ o ∈ ops, ∀ c, o.op ≠ .defer c) (hlo : ¬ LetsOut Q) (h : wpOp P ops Q i K a w) : wpOpIn (Fence.wide.inRound l) n P ops Q i K a w := by
  unfold wpOp at h
  unfold wpOpIn
  split
  · rename_i ho
    simpa [ho] using h
  · rename_i o ho
    simp only [ho] at h
    split
    · rename_i hw
      simp only [hw, if_true] at h
      rcases h with h | ⟨_, h⟩
      · exact oper_in (hd o (Array.mem_of_getElem? ho)) h
      · exact absurd h hlo
    · rename_i hw
      simp only [hw] at h
      exact ⟨fun _ _ => trivial, h⟩
theorem any_in {l n : Nat} {P : Program} {md : Region.Mode} {ops : Array Oper} {Q : Exit → Act → World → Prop} (hd : ∀ o ∈ ops, ∀ c, o.op ≠ .defer c) (hlo : ¬ LetsOut Q) : ∀ (fuel : Nat) (listed : Array Bool) (a : Act) (w : World), wpAny P md ops Q fuel listed a w → wpAnyIn (Fence.wide.inRound l) n P md ops Q fuel listed a w
  | 0, _, _, _, h => h
  | fuel + 1, _, _, _, h => ⟨h.1, fun i hi => wpOp_in hd hlo (wpOp_mono (fun a' w' h' => any_in hd hlo fuel _ a' w' h') (h.2 i hi))⟩
theorem round_held {l n id : Nat} {P : Program} {ops : Array Oper} {Q : Exit → Act → World → Prop} {a : Act} {w : World} {S : World → Prop} (hm : P.follows .mixedOrders = true) (hd : ∀ o ∈ ops, ∀ c, o.op ≠ .defer c) (hlo : ¬ LetsOut Q) (hS : S w.drew) (h : S w.drew → wpAnyH P .any ops Q S ops.size (Array.replicate ops.size false) a w.drew) : (Code.region id ops true).wpIn (Fence.wide.inRound l) n P Q a w :=
  wpIn_region_any hm (any_in hd hlo _ _ _ _ (wpAny_of_held _ _ _ _ (h hS)))

/-- Marks of rounds that are over, each of another loop. -/
def marks (ds : List Nat) : List Deferred := ds.map fun D => { target := .collected D, args := #[] }
def Colls (B : Nat) (W : World) (ds : List Nat) : Prop := ds.Nodup ∧ ∀ D ∈ ds, B ≤ D ∧ W.heap[D]? = some (.deferred (some []))
theorem Colls.nil (B : Nat) (W : World) : Colls B W [] := ⟨List.nodup_nil, fun D h => by simp at h⟩
theorem Colls.on {B : Nat} {W W' : World} {ds : List Nat} (h : Colls B W ds) (hb : ∀ D ∈ ds, W'.heap[D]? = W.heap[D]?) : Colls B W' ds := ⟨h.1, fun D hD => ⟨(h.2 D hD).1, (hb D hD).trans (h.2 D hD).2⟩⟩
theorem Colls.lt {B : Nat} {W : World} {ds : List Nat} (h : Colls B W ds) {D : Nat} (hD : D ∈ ds) : D < W.heap.size := (Array.getElem?_eq_some_iff.1 (h.2 D hD).2).1
theorem Colls.below {B : Nat} {W W' : World} {ds : List Nat} (h : Colls B W ds) (hb : Below W.heap.size W W') : Colls B W' ds := h.on fun D hD => hb.block D (h.lt hD)
end Pg
end Go.Proofs.Ytcbbpmknomhedaa

/- The program's iterator over the classes above, and who asks it. -/
namespace Go.Proofs.Ytcbbpmknomhedaa
namespace Pg
open Go.ChangeShapes Go.WideShapes Go.ChangeAt Go.RowKit Go.Shelf St
attribute [local go_sem] Oper.semAt_some

set_option maxHeartbeats 400000 in
theorem upFrom_in (n : Nat) (a : Option Addr) (len cap : Nat) (c : Int) (w : World) :
    CallsIn Fence.wide n Try.prog 28 #[.agg #[.slice a len cap], .int .i64 c] w fun e w' => e = .returned (.func (.func 43) #[] #[.pointer (some ⟨w.heap.size + 1, 0, none⟩), .pointer (some ⟨w.heap.size, 0, none⟩)]) ∧ w' = (w.alloc (.cells #[.slice a len cap] 26)).alloc (.cells #[.int .i64 c] 2) := by
  refine callsIn_of_wp Try.func28 rfl trivial ?_ rfl
  simp only [Try.ntmps28, List.size_toArray, List.length_cons, List.length_nil, Nat.reduceAdd, Nat.reduceSub, Array.replicate_succ, Array.replicate_zero, List.push_toArray, List.append_toArray, List.nil_append, List.cons_append]
  gi_wp2
  go_ret
  exact ⟨rfl, rfl⟩

set_option maxRecDepth 100000 in
set_option maxHeartbeats 1000000 in
theorem up1_in {α : Type} (n : Nat) (hn : 1 ≤ n) (l bc bp B : Nat) (p : Prg) (a : Option Addr) (cap : Nat) (u0 : Int) (hu0 : -1 ≤ u0) (hu1 : u0 < (p.length : Int)) (h6 : p.length ≤ 6) (hsup : SupOk p p.length) (w0 : World) (hp : SK front B w0 (.slice a p.length cap) p) (en : α → Int) (mk : ∀ j : Nat, j < p.length → α) (hen : ∀ j hj, en (mk j hj) = (j : Int)) (J Jx : List α → World → Prop)
    (hY : ∀ pre x W, J pre W → pre.length < 6 → YieldAt Fence.wide (n - 1) Try.prog l #[.int .i64 (en x)] W fun e W' =>
      (e = .returned (.bool true) ∧ J (pre ++ [x]) W' ∧ Kp w0.heap.size [bp] W W') ∨ (e = .returned (.bool false) ∧ Jx (pre ++ [x]) W'))
    (W : World) (hW : Below w0.heap.size w0 W) (hbc : W.cell? ⟨bc, 0, none⟩ = some (.int .i64 u0)) (hbp : Boxed W bp 26 (.slice a p.length cap)) (h0 : J [] W) :
    CallsIn Fence.wide n Try.prog 43 #[.func (.yield l) #[] #[], .pointer (some ⟨bc, 0, none⟩), .pointer (some ⟨bp, 0, none⟩)] W fun e W' => (∃ v, e = .returned v) ∧
      ((∃ ys, ys.map en = upL p u0 ∧ J ys W') ∨ (∃ pre, pre.map en <+: upL p u0 ∧ Jx pre W')) := by
  have HP : Hid (SK front B w0 (.slice a p.length cap) p) := hp
  have HSUP : Hid (SupOk p p.length) := hsup
  clear hp hsup
  refine callsIn_of_wp Try.func43 rfl trivial ?_ rfl
  simp only [Try.ntmps43, List.size_toArray, List.length_cons, List.length_nil, Nat.reduceAdd, Nat.reduceSub, Array.replicate_succ, Array.replicate_zero, List.push_toArray, List.append_toArray, List.nil_append, List.cons_append]
  gi_wp2
  gi_loopw [4] (fun v wr => ∃ (pre : List α) (u : Int), v = .int .i64 u ∧ -1 ≤ u ∧ u < (p.length : Int) ∧ Hid (upL p u0 = pre.map en ++ upL p u) ∧ J pre wr ∧ Below w0.heap.size w0 wr ∧ Boxed wr bp 26 (.slice a p.length cap)) (fun v _ => (intOf v + 1).toNat)
  case atStart => exact ⟨[], u0, rfl, hu0, hu1, by show _ = _; simp, h0, hW, hbp⟩
  case round =>
    clear hu0 hu1 hbc hbp h0
    obtain ⟨pre, u, rfl, hu0, hu1, hx, hJ, hb, hbx⟩ := hrel
    by_cases hneg : u = -1
    · have HE : Hid (upL p u0 = pre.map en) := by
        show _ = _
        rw [hx.out, hneg, upL_neg p (by omega)]; simp
      subst hneg
      gi_wp2
      refine ⟨fun _ h => (by cases h), ?_⟩
      gi_wp2
      go_end0
      exact ⟨⟨_, rfl⟩, .inl ⟨pre, HE.out.symm, hJ⟩⟩
    · obtain ⟨j, rfl⟩ := Int.eq_ofNat_of_zero_le (show 0 ≤ u by omega)
      have hjp : j < p.length := by omega
      have hji : (j : Int) < (p.length : Int) := by omega
      have hj0 : (0 : Int) ≤ (j : Int) := by omega
      have hnb : ((j : Int) != -1) = true := by simp
      have HST : Hid (upL p u0 = (pre ++ [mk j hjp]).map en ++ upL p p[j].super) := by
        show _ = _
        rw [hx.out, upL_step HSUP.out hjp (by omega) (List.getElem?_eq_getElem hjp)]; simp [hen]
      have hlen : pre.length < 6 := by
        have h1 := upL_len p u0
        rw [HST.out] at h1
        simp at h1
        omega
      obtain ⟨b, o, rfl, _, vf, vm, d0, d1, d2, hcv⟩ := HP.out.get hjp
      have l0 : b < w0.heap.size := cell_lt d0
      have hsu := HSUP.out j _ hjp (List.getElem?_eq_getElem hjp)
      obtain ⟨fn, tmps, assign, body, hy, hR⟩ := hY pre (mk j hjp) wr hJ hlen
      rw [hen] at hy
      generalize mk j hjp = xj at *
      generalize p[j] = c at *
      have hsu1 := hsu.1
      have hsu2 := hsu.2
      clear hcv hsu d1 d2 hneg hx
      gi_wp2
      refine hR.mono ?_
      rintro e W3 (⟨rfl, hJ3, hk3⟩ | ⟨rfl, hJx3⟩)
      · have hb3 : Below w0.heap.size w0 W3 := hb.trans hk3.1
        have c0 := (hb3.cell l0).trans d0
        have hbx3 := hk3.boxed (by simp) hbx
        have p0 := hbx3.cell
        gi_wp2
        go_roundw
        case rel => exact ⟨pre ++ [xj], c.super, rfl, hsu1, by omega, HST.out, hJ3, hb3, hbx3⟩
        case measure => simp [intOf]; omega
      · gi_wp2
        go_end0
        exact ⟨⟨_, rfl⟩, .inr ⟨pre ++ [xj], ⟨_, HST.out.symm⟩, hJx3⟩⟩

/-- A class of a program of n. -/
abbrev Cl (n : Nat) := { x : Int // 0 ≤ x ∧ x < (n : Int) }
def vals {n : Nat} (l : List (Cl n)) : List Int := l.map (·.1)
theorem vals_snoc {n : Nat} (l : List (Cl n)) (x : Cl n) : vals (l ++ [x]) = vals l ++ [x.1] := by simp [vals]

/-- What the iterator over those above hands out. -/
theorem up_stops (n : Nat) (hn : 1 ≤ n) (bc bp B : Nat) (p : Prg) (a : Option Addr) (cap : Nat) (u0 : Int) (hu0 : -1 ≤ u0) (hu1 : u0 < (p.length : Int)) (h6 : p.length ≤ 6) (hsup : SupOk p p.length) (w0 w : World) (hp : SK front B w0 (.slice a p.length cap) p) (hw : Below w0.heap.size w0 w) (hbc : w.cell? ⟨bc, 0, none⟩ = some (.int .i64 u0)) (hbp : Boxed w bp 26 (.slice a p.length cap)) :
    SeqStopsK Fence.wide n Try.prog 43 #[.pointer (some ⟨bc, 0, none⟩), .pointer (some ⟨bp, 0, none⟩)] (fun x : Int => #[Value.int .i64 x]) (Kp w0.heap.size [bp]) (fun ys => ys = upL p u0) (fun pre => pre <+: upL p u0) 6 w := fun l J Jx W hW _ _ hY h0 =>
  (up1_in n hn l bc bp B p a cap u0 hu0 hu1 h6 hsup w0 hp (fun x : Int => x) (fun j _ => (j : Int)) (fun _ _ => rfl) J Jx hY W (hw.trans (hW.mono hw.size)) ((hW.cell (p := ⟨bc, 0, none⟩) (cell_lt hbc)).trans hbc) ((hW.block bp hbp.lt).trans hbp) h0).mono
    (fun e W' h => by simpa using h)
/-- The same, each of them a class that is there. -/
theorem up_stopsC (n : Nat) (hn : 1 ≤ n) (bc bp B : Nat) (p : Prg) (a : Option Addr) (cap : Nat) (u0 : Int) (hu0 : -1 ≤ u0) (hu1 : u0 < (p.length : Int)) (h6 : p.length ≤ 6) (hsup : SupOk p p.length) (w0 w : World) (hp : SK front B w0 (.slice a p.length cap) p) (hw : Below w0.heap.size w0 w) (hbc : w.cell? ⟨bc, 0, none⟩ = some (.int .i64 u0)) (hbp : Boxed w bp 26 (.slice a p.length cap)) :
    SeqStopsK Fence.wide n Try.prog 43 #[.pointer (some ⟨bc, 0, none⟩), .pointer (some ⟨bp, 0, none⟩)] (fun x : Cl p.length => #[Value.int .i64 x.1]) (Kp w0.heap.size [bp]) (fun ys => vals ys = upL p u0) (fun pre => vals pre <+: upL p u0) 6 w := fun l J Jx W hW _ _ hY h0 =>
  up1_in n hn l bc bp B p a cap u0 hu0 hu1 h6 hsup w0 hp (fun x : Cl p.length => x.1) (fun j hj => ⟨(j : Int), by omega, by omega⟩) (fun _ _ => rfl) J Jx hY W (hw.trans (hW.mono hw.size)) ((hW.cell (p := ⟨bc, 0, none⟩) (cell_lt hbc)).trans hbc) ((hW.block bp hbp.lt).trans hbp) h0
end Pg
end Go.Proofs.Ytcbbpmknomhedaa

/- Contracts of the laws' own counting of what there is in a machine. -/
import Derived.Test.YtobaeenngffndaaMv0
namespace Go.Proofs.Ytobaeenngffndaa
namespace Pg
open Go.ChangeShapes Go.WideShapes Go.ChangeAt Go.RowKit St

set_option maxHeartbeats 400000 in
theorem szValues (a : Option Addr) (n cap : Nat) (left : Int) (h0 : 0 ≤ left) (h1 : left ≤ 1048576) (hn : n ≤ 9223372036854775807) (w : World) :
    Calls Try.prog 79 #[.slice a n cap, .int .i64 left] w fun e w' => e = .returned (.int .i64 (szR n left)) ∧ w = w' := by
  by_cases h : (n : Int) ≤ left
  · rw [szR_yes h]
    go_enter Try.func79, Try.ntmps79
    go_wp2
    go_ret
    exact ⟨rfl, rfl⟩
  · have h : left < (n : Int) := by omega
    rw [szR_no h]
    go_enter Try.func79, Try.ntmps79
    go_wp2
    go_ret
    exact ⟨rfl, rfl⟩
set_option maxHeartbeats 1600000 in
theorem szObject (x : Ob) (a1 : Option Addr) (c1 : Nat) (left : Int) (h0 : 0 ≤ left) (h1 : left ≤ 1048576) (hs : SaneO1 x) (w : World) :
    Calls Try.prog 52 #[.agg #[.int .i64 x.cls, .slice a1 x.flds.length c1], .int .i64 left] w fun e w' => e = .returned (.int .i64 (szR (szO1 x) left)) ∧ Below w.heap.size w w' := by
  have HS1 : Hid (x.flds.length ≤ 9223372036854775807) := hs
  clear hs
  by_cases q1 : (((x.flds.length : Nat) : Int) : Int) ≤ left
  ·
    rw [szR_yes (n := szO1 x) (by unfold szO1; omega)]
    go_enter Try.func52, Try.ntmps52
    go_wp2_with fail
    refine (szValues a1 x.flds.length c1 left h0 h1 HS1.out _).mono ?_
    rw [szR_yes q1]
    rintro e w1 ⟨rfl, rfl⟩
    go_wp2
    go_ret
    exact ⟨retI (by unfold szO1; omega), (Below.refl _ _).alloc (Nat.le_refl _) _⟩
  · have q1 := Int.not_le.1 q1
    rw [szR_no (n := szO1 x) (by unfold szO1; omega)]
    go_enter Try.func52, Try.ntmps52
    go_wp2_with fail
    refine (szValues a1 x.flds.length c1 left h0 h1 HS1.out _).mono ?_
    rw [szR_no q1]
    rintro e w1 ⟨rfl, rfl⟩
    go_wp2
    go_ret
    exact ⟨rfl, (Below.refl _ _).alloc (Nat.le_refl _) _⟩
set_option maxHeartbeats 1600000 in
theorem szObjects {f : Bool} {B : Nat} (a : Option Addr) (cap : Nat) (ms : List Ob) (left : Int) (h0 : 0 ≤ left) (h1 : left ≤ 1048576) (hs : SaneO ms) (w : World) (hm : SO f B w (.slice a ms.length cap) ms) :
    Calls Try.prog 18 #[.slice a ms.length cap, .int .i64 left] w fun e w' => e = .returned (.int .i64 (szR (szO ms) left)) ∧ Below w.heap.size w w' := by
  have hn := hs.1
  have HS : Hid (∀ m ∈ ms, SaneO1 m) := hs.2
  have HM : Hid (SO f B w (.slice a ms.length cap) ms) := hm
  clear hs hm
  by_cases h : (ms.length : Int) ≤ left
  · go_enter Try.func18, Try.ntmps18
    go_wp2
    go_loopw [1, 5] (fun lv i wr => ∃ (k : Nat) (lf : Int), k ≤ ms.length ∧ i = .int .i64 k ∧ lv = .int .i64 lf ∧ 0 ≤ lf ∧ lf ≤ 1048576 ∧ Hid (lf = left - ms.length - sumN ((ms.take k).map szO1)) ∧ Below w.heap.size w wr) (fun _ i _ => ms.length - (intOf i).toNat)
    case atStart => exact ⟨0, left - ms.length, Nat.zero_le _, rfl, rfl, by omega, by omega, by show _ = _; simp [sumN], Below.refl _ _⟩
    case round =>
      obtain ⟨k, lf, hk, rfl, rfl, hl0, hl1, hlf, hb⟩ := hrel
      by_cases hlt : k < ms.length
      · have hki : (k : Int) < (ms.length : Int) := by omega
        have HT : Hid (sumN ((ms.take (k + 1)).map szO1) = sumN ((ms.take k).map szO1) + szO1 ms[k]) := sumN_take_succ szO1 ms k hlt
        have HL : Hid (sumN ((ms.take (k + 1)).map szO1) ≤ sumN (ms.map szO1)) := sumN_take_le szO1 ms (k + 1)
        have HSM : Hid (SaneO1 ms[k]) := HS.out _ (List.getElem_mem hlt)
        obtain ⟨b, o, rfl, _, v1, d0, d1, hmv⟩ := (SO.on HM.out (Keep.of hb)).get hlt
        obtain ⟨a1, c1, rfl⟩ := (hmv).form
        generalize ms[k] = m at *
        clear hmv HM
        go_wp2_with fail
        refine (szObject m a1 c1 lf hl0 hl1 HSM.out _).mono ?_
        rintro e w1 ⟨rfl, hb1⟩
        have hw1 : Below w.heap.size w w1 := below_over hb hb1
        clear hb1 hb d0 d1
        by_cases hq : (szO1 m : Int) ≤ lf
        · rw [szR_yes hq]
          have hq0 : 0 ≤ lf - (szO1 m : Int) := by omega
          go_wp2
          go_roundw
          case rel =>
            refine ⟨k + 1, _, by omega, by go_num, rfl, by omega, by omega, ?_, hw1⟩
            show _ = _
            rw [HT.out, hlf.out]
            omega
          case measure => simp [intOf]; omega
        · have hq : lf < _ := Int.not_le.1 hq
          rw [szR_no hq]
          have HN : Hid (szR (szO ms) left = -1) := by
            show _ = _
            apply szR_no
            have h1 := HT.out
            have h2 := HL.out
            have h3 := hlf.out
            unfold szO
            omega
          go_wp2
          go_ret
          exact ⟨retI HN.out.symm, hw1⟩
      · have HN : Hid (szR (szO ms) left = lf) := by
          show _ = _
          have e : ms.take k = ms := List.take_of_length_le (by omega)
          have h3 := hlf.out
          rw [e] at h3
          rw [szR_yes (by unfold szO; omega)]
          unfold szO
          omega
        go_wp2
        go_ret
        exact ⟨retI HN.out.symm, hb⟩
  · rw [szR_no (n := szO ms) (by unfold szO; omega)]
    go_enter Try.func18, Try.ntmps18
    go_wp2
    go_ret
    exact ⟨rfl, Below.refl _ _⟩
set_option maxHeartbeats 1600000 in
theorem szFrame (x : Fr) (a1 a2 : Option Addr) (c1 c2 : Nat) (left : Int) (h0 : 0 ≤ left) (h1 : left ≤ 1048576) (hs : SaneF1 x) (w : World) :
    Calls Try.prog 53 #[.agg #[.int .i64 x.cls, .int .i64 x.name, .int .i64 x.pos, .slice a1 x.stk.length c1, .slice a2 x.loc.length c2], .int .i64 left] w fun e w' => e = .returned (.int .i64 (szR (szF1 x) left)) ∧ Below w.heap.size w w' := by
  have HS1 : Hid (x.stk.length ≤ 9223372036854775807) := hs.1
  have HS2 : Hid (x.loc.length ≤ 9223372036854775807) := hs.2
  clear hs
  by_cases q1 : (((x.stk.length : Nat) : Int) : Int) ≤ left
  ·
    by_cases q2 : (((x.loc.length : Nat) : Int) : Int) ≤ left - ((x.stk.length : Nat) : Int)
    ·
      rw [szR_yes (n := szF1 x) (by unfold szF1; omega)]
      go_enter Try.func53, Try.ntmps53
      go_wp2_with fail
      refine (szValues a1 x.stk.length c1 left h0 h1 HS1.out _).mono ?_
      rw [szR_yes q1]
      rintro e w1 ⟨rfl, rfl⟩
      go_wp2_with fail
      refine (szValues a2 x.loc.length c2 _ (by omega) (by omega) HS2.out _).mono ?_
      rw [szR_yes q2]
      rintro e w1 ⟨rfl, rfl⟩
      go_wp2
      go_ret
      exact ⟨retI (by unfold szF1; omega), (Below.refl _ _).alloc (Nat.le_refl _) _⟩
    · have q2 := Int.not_le.1 q2
      rw [szR_no (n := szF1 x) (by unfold szF1; omega)]
      go_enter Try.func53, Try.ntmps53
      go_wp2_with fail
      refine (szValues a1 x.stk.length c1 left h0 h1 HS1.out _).mono ?_
      rw [szR_yes q1]
      rintro e w1 ⟨rfl, rfl⟩
      go_wp2_with fail
      refine (szValues a2 x.loc.length c2 _ (by omega) (by omega) HS2.out _).mono ?_
      rw [szR_no q2]
      rintro e w1 ⟨rfl, rfl⟩
      go_wp2
      go_ret
      exact ⟨rfl, (Below.refl _ _).alloc (Nat.le_refl _) _⟩
  · have q1 := Int.not_le.1 q1
    rw [szR_no (n := szF1 x) (by unfold szF1; omega)]
    go_enter Try.func53, Try.ntmps53
    go_wp2_with fail
    refine (szValues a1 x.stk.length c1 left h0 h1 HS1.out _).mono ?_
    rw [szR_no q1]
    rintro e w1 ⟨rfl, rfl⟩
    go_wp2
    go_ret
    exact ⟨rfl, (Below.refl _ _).alloc (Nat.le_refl _) _⟩
set_option maxHeartbeats 1600000 in
theorem szFrames {f : Bool} {B : Nat} (a : Option Addr) (cap : Nat) (ms : List Fr) (left : Int) (h0 : 0 ≤ left) (h1 : left ≤ 1048576) (hs : SaneF ms) (w : World) (hm : SF f B w (.slice a ms.length cap) ms) :
    Calls Try.prog 19 #[.slice a ms.length cap, .int .i64 left] w fun e w' => e = .returned (.int .i64 (szR (szF ms) left)) ∧ Below w.heap.size w w' := by
  have hn := hs.1
  have HS : Hid (∀ m ∈ ms, SaneF1 m) := hs.2
  have HM : Hid (SF f B w (.slice a ms.length cap) ms) := hm
  clear hs hm
  by_cases h : (ms.length : Int) ≤ left
  · go_enter Try.func19, Try.ntmps19
    go_wp2
    go_loopw [1, 5] (fun lv i wr => ∃ (k : Nat) (lf : Int), k ≤ ms.length ∧ i = .int .i64 k ∧ lv = .int .i64 lf ∧ 0 ≤ lf ∧ lf ≤ 1048576 ∧ Hid (lf = left - ms.length - sumN ((ms.take k).map szF1)) ∧ Below w.heap.size w wr) (fun _ i _ => ms.length - (intOf i).toNat)
    case atStart => exact ⟨0, left - ms.length, Nat.zero_le _, rfl, rfl, by omega, by omega, by show _ = _; simp [sumN], Below.refl _ _⟩
    case round =>
      obtain ⟨k, lf, hk, rfl, rfl, hl0, hl1, hlf, hb⟩ := hrel
      by_cases hlt : k < ms.length
      · have hki : (k : Int) < (ms.length : Int) := by omega
        have HT : Hid (sumN ((ms.take (k + 1)).map szF1) = sumN ((ms.take k).map szF1) + szF1 ms[k]) := sumN_take_succ szF1 ms k hlt
        have HL : Hid (sumN ((ms.take (k + 1)).map szF1) ≤ sumN (ms.map szF1)) := sumN_take_le szF1 ms (k + 1)
        have HSM : Hid (SaneF1 ms[k]) := HS.out _ (List.getElem_mem hlt)
        obtain ⟨b, o, rfl, _, v1, v2, d0, d1, d2, d3, d4, hmv⟩ := (SF.on HM.out (Keep.of hb)).get hlt
        obtain ⟨a1, c1, rfl⟩ := (hmv.1).form
        obtain ⟨a2, c2, rfl⟩ := (hmv.2).form
        generalize ms[k] = m at *
        clear hmv HM
        go_wp2_with fail
        refine (szFrame m a1 a2 c1 c2 lf hl0 hl1 HSM.out _).mono ?_
        rintro e w1 ⟨rfl, hb1⟩
        have hw1 : Below w.heap.size w w1 := below_over hb hb1
        clear hb1 hb d0 d1 d2 d3 d4
        by_cases hq : (szF1 m : Int) ≤ lf
        · rw [szR_yes hq]
          have hq0 : 0 ≤ lf - (szF1 m : Int) := by omega
          go_wp2
          go_roundw
          case rel =>
            refine ⟨k + 1, _, by omega, by go_num, rfl, by omega, by omega, ?_, hw1⟩
            show _ = _
            rw [HT.out, hlf.out]
            omega
          case measure => simp [intOf]; omega
        · have hq : lf < _ := Int.not_le.1 hq
          rw [szR_no hq]
          have HN : Hid (szR (szF ms) left = -1) := by
            show _ = _
            apply szR_no
            have h1 := HT.out
            have h2 := HL.out
            have h3 := hlf.out
            unfold szF
            omega
          go_wp2
          go_ret
          exact ⟨retI HN.out.symm, hw1⟩
      · have HN : Hid (szR (szF ms) left = lf) := by
          show _ = _
          have e : ms.take k = ms := List.take_of_length_le (by omega)
          have h3 := hlf.out
          rw [e] at h3
          rw [szR_yes (by unfold szF; omega)]
          unfold szF
          omega
        go_wp2
        go_ret
        exact ⟨retI HN.out.symm, hb⟩
  · rw [szR_no (n := szF ms) (by unfold szF; omega)]
    go_enter Try.func19, Try.ntmps19
    go_wp2
    go_ret
    exact ⟨rfl, Below.refl _ _⟩
set_option maxHeartbeats 1600000 in
theorem szMachine (x : Mc) {f : Bool} (B : Nat) (a1 a2 a3 : Option Addr) (c1 c2 c3 : Nat) (left : Int) (h0 : 0 ≤ left) (h1 : left ≤ 1048576) (hs : SaneK x) (w : World) (hm : KV f B w (.slice a1 x.heap.length c1) (.slice a2 x.frames.length c2) (.slice a3 x.said.length c3) x) :
    Calls Try.prog 5 #[.agg #[.slice a1 x.heap.length c1, .slice a2 x.frames.length c2, .slice a3 x.said.length c3, .int .i64 x.fin, .int .i64 x.code], .int .i64 left] w fun e w' => e = .returned (.int .i64 (szR (szK x) left)) ∧ Below w.heap.size w w' := by
  have HS1 : Hid (SaneO x.heap) := hs.1
  have HS2 : Hid (SaneF x.frames) := hs.2.1
  have HS3 : Hid (x.said.length ≤ 9223372036854775807) := hs.2.2
  have HM : Hid (KV f B w (.slice a1 x.heap.length c1) (.slice a2 x.frames.length c2) (.slice a3 x.said.length c3) x) := hm
  clear hm
  clear hs
  by_cases q1 : (((szO x.heap : Nat) : Int) : Int) ≤ left
  ·
    by_cases q2 : (((szF x.frames : Nat) : Int) : Int) ≤ left - ((szO x.heap : Nat) : Int)
    ·
      by_cases q3 : (((x.said.length : Nat) : Int) : Int) ≤ left - ((szO x.heap : Nat) : Int) - ((szF x.frames : Nat) : Int)
      ·
        rw [szR_yes (n := szK x) (by unfold szK; omega)]
        go_enter Try.func5, Try.ntmps5
        go_wp2_with fail
        refine (szObjects a1 c1 x.heap left h0 h1 HS1.out _ (SO.on (HM.out.1) (Keep.of (by go_grown)))).mono ?_
        rw [szR_yes q1]
        rintro e w1 ⟨rfl, hb1⟩
        have hw1 : Below w.heap.size w w1 := below_over (by go_grown) hb1
        have A1 : Hid (Cells w1 w.heap.size [.slice a1 x.heap.length c1, .slice a2 x.frames.length c2, .slice a3 x.said.length c3, .int .i64 x.fin, .int .i64 x.code]) := (Cells.new w _ rfl _ _).on hb1
        clear hb1
        obtain ⟨b1, _⟩ := A1.out.g1
        go_wp2_with fail
        refine (szFrames a2 c2 x.frames _ (by omega) (by omega) HS2.out _ (SF.on (HM.out.2.1) (Keep.of hw1))).mono ?_
        rw [szR_yes q2]
        rintro e w2 ⟨rfl, hb2⟩
        have hw2 : Below w.heap.size w w2 := below_over hw1 hb2
        have A2 : Hid (Cells w2 w.heap.size [.slice a1 x.heap.length c1, .slice a2 x.frames.length c2, .slice a3 x.said.length c3, .int .i64 x.fin, .int .i64 x.code]) := A1.out.on hb2
        clear hb2
        obtain ⟨b2, _⟩ := A2.out.g2
        go_wp2_with fail
        refine (szInts a3 x.said.length c3 _ (by omega) (by omega) HS3.out _).mono ?_
        rw [szR_yes q3]
        rintro e w3 ⟨rfl, hz⟩
        subst hz
        go_wp2
        go_ret
        exact ⟨retI (by unfold szK; omega), hw2⟩
      · have q3 := Int.not_le.1 q3
        rw [szR_no (n := szK x) (by unfold szK; omega)]
        go_enter Try.func5, Try.ntmps5
        go_wp2_with fail
        refine (szObjects a1 c1 x.heap left h0 h1 HS1.out _ (SO.on (HM.out.1) (Keep.of (by go_grown)))).mono ?_
        rw [szR_yes q1]
        rintro e w1 ⟨rfl, hb1⟩
        have hw1 : Below w.heap.size w w1 := below_over (by go_grown) hb1
        have A1 : Hid (Cells w1 w.heap.size [.slice a1 x.heap.length c1, .slice a2 x.frames.length c2, .slice a3 x.said.length c3, .int .i64 x.fin, .int .i64 x.code]) := (Cells.new w _ rfl _ _).on hb1
        clear hb1
        obtain ⟨b1, _⟩ := A1.out.g1
        go_wp2_with fail
        refine (szFrames a2 c2 x.frames _ (by omega) (by omega) HS2.out _ (SF.on (HM.out.2.1) (Keep.of hw1))).mono ?_
        rw [szR_yes q2]
        rintro e w2 ⟨rfl, hb2⟩
        have hw2 : Below w.heap.size w w2 := below_over hw1 hb2
        have A2 : Hid (Cells w2 w.heap.size [.slice a1 x.heap.length c1, .slice a2 x.frames.length c2, .slice a3 x.said.length c3, .int .i64 x.fin, .int .i64 x.code]) := A1.out.on hb2
        clear hb2
        obtain ⟨b2, _⟩ := A2.out.g2
        go_wp2_with fail
        refine (szInts a3 x.said.length c3 _ (by omega) (by omega) HS3.out _).mono ?_
        rw [szR_no q3]
        rintro e w3 ⟨rfl, hz⟩
        subst hz
        go_wp2
        go_ret
        exact ⟨rfl, hw2⟩
    · have q2 := Int.not_le.1 q2
      rw [szR_no (n := szK x) (by unfold szK; omega)]
      go_enter Try.func5, Try.ntmps5
      go_wp2_with fail
      refine (szObjects a1 c1 x.heap left h0 h1 HS1.out _ (SO.on (HM.out.1) (Keep.of (by go_grown)))).mono ?_
      rw [szR_yes q1]
      rintro e w1 ⟨rfl, hb1⟩
      have hw1 : Below w.heap.size w w1 := below_over (by go_grown) hb1
      have A1 : Hid (Cells w1 w.heap.size [.slice a1 x.heap.length c1, .slice a2 x.frames.length c2, .slice a3 x.said.length c3, .int .i64 x.fin, .int .i64 x.code]) := (Cells.new w _ rfl _ _).on hb1
      clear hb1
      obtain ⟨b1, _⟩ := A1.out.g1
      go_wp2_with fail
      refine (szFrames a2 c2 x.frames _ (by omega) (by omega) HS2.out _ (SF.on (HM.out.2.1) (Keep.of hw1))).mono ?_
      rw [szR_no q2]
      rintro e w2 ⟨rfl, hb2⟩
      have hw2 : Below w.heap.size w w2 := below_over hw1 hb2
      have A2 : Hid (Cells w2 w.heap.size [.slice a1 x.heap.length c1, .slice a2 x.frames.length c2, .slice a3 x.said.length c3, .int .i64 x.fin, .int .i64 x.code]) := A1.out.on hb2
      clear hb2
      obtain ⟨b2, _⟩ := A2.out.g2
      go_wp2
      go_ret
      exact ⟨rfl, hw2⟩
  · have q1 := Int.not_le.1 q1
    rw [szR_no (n := szK x) (by unfold szK; omega)]
    go_enter Try.func5, Try.ntmps5
    go_wp2_with fail
    refine (szObjects a1 c1 x.heap left h0 h1 HS1.out _ (SO.on (HM.out.1) (Keep.of (by go_grown)))).mono ?_
    rw [szR_no q1]
    rintro e w1 ⟨rfl, hb1⟩
    have hw1 : Below w.heap.size w w1 := below_over (by go_grown) hb1
    have A1 : Hid (Cells w1 w.heap.size [.slice a1 x.heap.length c1, .slice a2 x.frames.length c2, .slice a3 x.said.length c3, .int .i64 x.fin, .int .i64 x.code]) := (Cells.new w _ rfl _ _).on hb1
    clear hb1
    obtain ⟨b1, _⟩ := A1.out.g1
    go_wp2
    go_ret
    exact ⟨rfl, hw1⟩
end Pg
end Go.Proofs.Ytobaeenngffndaa

/- Contracts of the laws' own counting of what there is in a program. -/
import Derived.Test.YtbfiijfaaknhaaaPg1
namespace Go.Proofs.Ytbfiijfaaknhaaa
namespace Pg
open Go.ChangeShapes Go.WideShapes Go.ChangeAt Go.RowKit St

/-- What is left, or -1. -/
def szR (n : Nat) (left : Int) : Int := if (n : Int) ≤ left then left - n else -1
theorem szR_yes {n : Nat} {left : Int} (h : (n : Int) ≤ left) : szR n left = left - n := if_pos h
theorem szR_no {n : Nat} {left : Int} (h : left < (n : Int)) : szR n left = -1 := if_neg (by omega)
theorem retI {p q : Int} (h : p = q) : Ending.returned (.int .i64 p) = .returned (.int .i64 q) := by rw [h]
/-- No slice is longer than slices can be. -/
def SaneM (m : Meth) : Prop := m.args.length ≤ 9223372036854775807 ∧ m.code.length ≤ 9223372036854775807
def SaneC (c : Cls) : Prop := c.fields.length ≤ 9223372036854775807 ∧ c.meths.length ≤ 9223372036854775807 ∧ ∀ m ∈ c.meths, SaneM m
def SaneP (p : Prg) : Prop := p.length ≤ 9223372036854775807 ∧ ∀ c ∈ p, SaneC c

set_option maxHeartbeats 400000 in
theorem szInts (a : Option Addr) (n cap : Nat) (left : Int) (h0 : 0 ≤ left) (h1 : left ≤ 1048576) (hn : n ≤ 9223372036854775807) (w : World) :
    Calls Try.prog 72 #[.slice a n cap, .int .i64 left] w fun e w' => e = .returned (.int .i64 (szR n left)) ∧ w = w' := by
  by_cases h : (n : Int) ≤ left
  · rw [szR_yes h]
    go_enter Try.func72, Try.ntmps72
    go_wp2
    go_ret
    exact ⟨rfl, rfl⟩
  · have h : left < (n : Int) := by omega
    rw [szR_no h]
    go_enter Try.func72, Try.ntmps72
    go_wp2
    go_ret
    exact ⟨rfl, rfl⟩
set_option maxHeartbeats 400000 in
theorem szInsns (a : Option Addr) (n cap : Nat) (left : Int) (h0 : 0 ≤ left) (h1 : left ≤ 1048576) (hn : n ≤ 9223372036854775807) (w : World) :
    Calls Try.prog 91 #[.slice a n cap, .int .i64 left] w fun e w' => e = .returned (.int .i64 (szR n left)) ∧ w = w' := by
  by_cases h : (n : Int) ≤ left
  · rw [szR_yes h]
    go_enter Try.func91, Try.ntmps91
    go_wp2
    go_ret
    exact ⟨rfl, rfl⟩
  · have h : left < (n : Int) := by omega
    rw [szR_no h]
    go_enter Try.func91, Try.ntmps91
    go_wp2
    go_ret
    exact ⟨rfl, rfl⟩

set_option maxHeartbeats 800000 in
theorem szMethod (name gives : Int) (a a' : Option Addr) (n n' cap cap' : Nat) (left : Int) (h0 : 0 ≤ left) (h1 : left ≤ 1048576) (hn : n ≤ 9223372036854775807) (hn' : n' ≤ 9223372036854775807) (w : World) :
    Calls Try.prog 84 #[.agg #[.int .i64 name, .slice a n cap, .int .i64 gives, .slice a' n' cap'], .int .i64 left] w fun e w' => e = .returned (.int .i64 (szR (n + n') left)) ∧ Below w.heap.size w w' := by
  by_cases h : (n : Int) ≤ left
  · by_cases h' : (n' : Int) ≤ left - n
    · rw [szR_yes (n := n + n') (by omega)]
      go_enter Try.func84, Try.ntmps84
      go_wp2_with fail
      refine (szInts a n cap left h0 h1 hn _).mono ?_
      rw [szR_yes h]
      rintro e w1 ⟨rfl, rfl⟩
      go_wp2_with fail
      refine (szInsns a' n' cap' _ (by omega) (by omega) hn' _).mono ?_
      rw [szR_yes h']
      rintro e w1 ⟨rfl, rfl⟩
      go_wp2
      go_ret
      exact ⟨retI (by omega), (Below.refl _ _).alloc (Nat.le_refl _) _⟩
    · rw [szR_no (n := n + n') (by omega)]
      go_enter Try.func84, Try.ntmps84
      go_wp2_with fail
      refine (szInts a n cap left h0 h1 hn _).mono ?_
      rw [szR_yes h]
      rintro e w1 ⟨rfl, rfl⟩
      go_wp2_with fail
      refine (szInsns a' n' cap' _ (by omega) (by omega) hn' _).mono ?_
      rw [szR_no h']
      rintro e w1 ⟨rfl, rfl⟩
      go_wp2
      go_ret
      exact ⟨rfl, (Below.refl _ _).alloc (Nat.le_refl _) _⟩
  · rw [szR_no (n := n + n') (by omega)]
    go_enter Try.func84, Try.ntmps84
    go_wp2_with fail
    refine (szInts a n cap left h0 h1 hn _).mono ?_
    rw [szR_no h]
    rintro e w1 ⟨rfl, rfl⟩
    go_wp2
    go_ret
    exact ⟨rfl, (Below.refl _ _).alloc (Nat.le_refl _) _⟩

set_option maxHeartbeats 800000 in
theorem szMethods (K : Way) (B : Nat) (a : Option Addr) (cap : Nat) (ms : List Meth) (left : Int) (h0 : 0 ≤ left) (h1 : left ≤ 1048576) (hn : ms.length ≤ 9223372036854775807) (hs : ∀ m ∈ ms, SaneM m) (w : World) (hm : SM K B w (.slice a ms.length cap) ms) :
    Calls Try.prog 73 #[.slice a ms.length cap, .int .i64 left] w fun e w' => e = .returned (.int .i64 (szR (szMs ms) left)) ∧ Below w.heap.size w w' := by
  have HS : Hid (∀ m ∈ ms, SaneM m) := hs
  have HM : Hid (SM K B w (.slice a ms.length cap) ms) := hm
  clear hs hm
  by_cases h : (ms.length : Int) ≤ left
  · go_enter Try.func73, Try.ntmps73
    go_wp2
    go_loopw [1, 5] (fun lv i wr => ∃ (k : Nat) (lf : Int), k ≤ ms.length ∧ i = .int .i64 k ∧ lv = .int .i64 lf ∧ 0 ≤ lf ∧ lf ≤ 1048576 ∧ Hid (lf = left - ms.length - sumN ((ms.take k).map szM)) ∧ Below w.heap.size w wr) (fun _ i _ => ms.length - (intOf i).toNat)
    case atStart => exact ⟨0, left - ms.length, Nat.zero_le _, rfl, rfl, by omega, by omega, by show _ = _; simp [sumN], Below.refl _ _⟩
    case round =>
      obtain ⟨k, lf, hk, rfl, rfl, hl0, hl1, hlf, hb⟩ := hrel
      by_cases hlt : k < ms.length
      · have hki : (k : Int) < (ms.length : Int) := by omega
        have HT : Hid (sumN ((ms.take (k + 1)).map szM) = sumN ((ms.take k).map szM) + szM ms[k]) := sumN_take_succ szM ms k hlt
        have HL : Hid (sumN ((ms.take (k + 1)).map szM) ≤ sumN (ms.map szM)) := sumN_take_le szM ms (k + 1)
        have hsm := HS.out _ (List.getElem_mem hlt)
        obtain ⟨b, o, rfl, _, va, vc, c0, c1, c2, c3, hmv⟩ := (SM.on HM.out (Keep.of hb)).get hlt
        obtain ⟨aa, ca, rfl⟩ := hmv.1.form
        obtain ⟨ac, cc, rfl⟩ := K.form hmv.2
        generalize ms[k] = m at *
        have hsm1 := hsm.1
        have hsm2 := hsm.2
        clear hsm hmv HM
        go_wp2_with fail
        refine (szMethod m.name m.gives aa ac m.args.length m.code.length ca cc lf hl0 hl1 hsm1 hsm2 _).mono ?_
        rintro e w1 ⟨rfl, hb1⟩
        have hw1 : Below w.heap.size w w1 := below_over hb hb1
        clear hb1 hb c0 c1 c2 c3
        by_cases hq : ((m.args.length + m.code.length : Nat) : Int) ≤ lf
        · rw [szR_yes hq]
          have hq0 : 0 ≤ lf - ((m.args.length + m.code.length : Nat) : Int) := by omega
          go_wp2
          go_roundw
          case rel =>
            refine ⟨k + 1, _, by omega, by go_num, rfl, by omega, by omega, ?_, hw1⟩
            show _ = _
            rw [HT.out, hlf.out]
            have e : szM m = m.args.length + m.code.length := rfl
            omega
          case measure => simp [intOf]; omega
        · have hq : lf < _ := Int.not_le.1 hq
          rw [szR_no hq]
          have HN : Hid (szR (szMs ms) left = -1) := by
            show _ = _
            apply szR_no
            have h1 := HT.out
            have h2 := HL.out
            have h3 := hlf.out
            have e : szM m = m.args.length + m.code.length := rfl
            unfold szMs
            omega
          go_wp2
          go_ret
          exact ⟨retI HN.out.symm, hw1⟩
      · have HN : Hid (szR (szMs ms) left = lf) := by
          show _ = _
          have e : ms.take k = ms := List.take_of_length_le (by omega)
          have h3 := hlf.out
          rw [e] at h3
          rw [szR_yes (by unfold szMs; omega)]
          unfold szMs
          omega
        go_wp2
        go_ret
        exact ⟨retI HN.out.symm, hb⟩
  · rw [szR_no (n := szMs ms) (by unfold szMs; omega)]
    go_enter Try.func73, Try.ntmps73
    go_wp2
    go_ret
    exact ⟨rfl, Below.refl _ _⟩

set_option maxHeartbeats 800000 in
theorem szClass (K : Way) (B : Nat) (super : Int) (a a' : Option Addr) (cap cap' : Nat) (c : Cls) (left : Int) (h0 : 0 ≤ left) (h1 : left ≤ 1048576) (hs : SaneC c) (w : World) (hm : SM K B w (.slice a' c.meths.length cap') c.meths) :
    Calls Try.prog 52 #[.agg #[.int .i64 super, .slice a c.fields.length cap, .slice a' c.meths.length cap'], .int .i64 left] w fun e w' => e = .returned (.int .i64 (szR (szC c) left)) ∧ Below w.heap.size w w' := by
  have HM : Hid (SM K B w (.slice a' c.meths.length cap') c.meths) := hm
  have hs1 := hs.1
  have hs2 := hs.2.1
  have HS3 : Hid (∀ m ∈ c.meths, SaneM m) := hs.2.2
  clear hm hs
  by_cases h : (c.fields.length : Int) ≤ left
  · by_cases h' : (szMs c.meths : Int) ≤ left - c.fields.length
    · rw [szR_yes (n := szC c) (by unfold szC; omega)]
      go_enter Try.func52, Try.ntmps52
      go_wp2_with fail
      refine (szInts a _ cap left h0 h1 hs1 _).mono ?_
      rw [szR_yes h]
      rintro e w1 ⟨rfl, rfl⟩
      go_wp2_with fail
      refine (szMethods K B a' cap' c.meths _ (by omega) (by omega) hs2 HS3.out _ (SM.on HM.out (Keep.of ((Below.refl _ _).alloc (Nat.le_refl _) _)))).mono ?_
      rw [szR_yes h']
      rintro e w1 ⟨rfl, hb1⟩
      have hw1 : Below w.heap.size w w1 := below_over ((Below.refl _ _).alloc (Nat.le_refl _) _) hb1
      clear hb1
      go_wp2
      go_ret
      exact ⟨retI (by unfold szC; omega), hw1⟩
    · rw [szR_no (n := szC c) (by unfold szC; omega)]
      go_enter Try.func52, Try.ntmps52
      go_wp2_with fail
      refine (szInts a _ cap left h0 h1 hs1 _).mono ?_
      rw [szR_yes h]
      rintro e w1 ⟨rfl, rfl⟩
      go_wp2_with fail
      refine (szMethods K B a' cap' c.meths _ (by omega) (by omega) hs2 HS3.out _ (SM.on HM.out (Keep.of ((Below.refl _ _).alloc (Nat.le_refl _) _)))).mono ?_
      rw [szR_no h']
      rintro e w1 ⟨rfl, hb1⟩
      have hw1 : Below w.heap.size w w1 := below_over ((Below.refl _ _).alloc (Nat.le_refl _) _) hb1
      clear hb1
      go_wp2
      go_ret
      exact ⟨rfl, hw1⟩
  · rw [szR_no (n := szC c) (by unfold szC; omega)]
    go_enter Try.func52, Try.ntmps52
    go_wp2_with fail
    refine (szInts a _ cap left h0 h1 hs1 _).mono ?_
    rw [szR_no h]
    rintro e w1 ⟨rfl, rfl⟩
    go_wp2
    go_ret
    exact ⟨rfl, (Below.refl _ _).alloc (Nat.le_refl _) _⟩

set_option maxHeartbeats 800000 in
theorem szClasses (K : Way) (B : Nat) (a : Option Addr) (cap : Nat) (p : Prg) (left : Int) (h0 : 0 ≤ left) (h1 : left ≤ 1048576) (hs : SaneP p) (w : World) (hm : SK K B w (.slice a p.length cap) p) :
    Calls Try.prog 26 #[.slice a p.length cap, .int .i64 left] w fun e w' => e = .returned (.int .i64 (szR (szP p) left)) ∧ Below w.heap.size w w' := by
  have hn := hs.1
  have HS : Hid (∀ m ∈ p, SaneC m) := hs.2
  have HM : Hid (SK K B w (.slice a p.length cap) p) := hm
  clear hs hm
  by_cases h : (p.length : Int) ≤ left
  · go_enter Try.func26, Try.ntmps26
    go_wp2
    go_loopw [1, 5] (fun lv i wr => ∃ (k : Nat) (lf : Int), k ≤ p.length ∧ i = .int .i64 k ∧ lv = .int .i64 lf ∧ 0 ≤ lf ∧ lf ≤ 1048576 ∧ Hid (lf = left - p.length - sumN ((p.take k).map szC)) ∧ Below w.heap.size w wr) (fun _ i _ => p.length - (intOf i).toNat)
    case atStart => exact ⟨0, left - p.length, Nat.zero_le _, rfl, rfl, by omega, by omega, by show _ = _; simp [sumN], Below.refl _ _⟩
    case round =>
      obtain ⟨k, lf, hk, rfl, rfl, hl0, hl1, hlf, hb⟩ := hrel
      by_cases hlt : k < p.length
      · have hki : (k : Int) < (p.length : Int) := by omega
        have HT : Hid (sumN ((p.take (k + 1)).map szC) = sumN ((p.take k).map szC) + szC p[k]) := sumN_take_succ szC p k hlt
        have HL : Hid (sumN ((p.take (k + 1)).map szC) ≤ sumN (p.map szC)) := sumN_take_le szC p (k + 1)
        have HSM : Hid (SaneC p[k]) := HS.out _ (List.getElem_mem hlt)
        obtain ⟨b, o, rfl, _, vf, vm, c0, c1, c2, hcv⟩ := (SK.on HM.out (Keep.of hb)).get hlt
        obtain ⟨aa, ca, rfl⟩ := hcv.1.form
        obtain ⟨ac, cc, rfl⟩ := hcv.2.form
        have HCV : Hid (SM K B wr (.slice ac p[k].meths.length cc) p[k].meths) := hcv.2
        generalize p[k] = c at *
        clear hcv HM
        go_wp2_with fail
        refine (szClass K B c.super aa ac ca cc c lf hl0 hl1 HSM.out _ HCV.out).mono ?_
        rintro e w1 ⟨rfl, hb1⟩
        have hw1 : Below w.heap.size w w1 := below_over hb hb1
        clear hb1 hb c0 c1 c2 HCV
        by_cases hq : (szC c : Int) ≤ lf
        · rw [szR_yes hq]
          have hq0 : 0 ≤ lf - (szC c : Int) := by omega
          go_wp2
          go_roundw
          case rel =>
            refine ⟨k + 1, _, by omega, by go_num, rfl, by omega, by omega, ?_, hw1⟩
            show _ = _
            rw [HT.out, hlf.out]
            omega
          case measure => simp [intOf]; omega
        · have hq : lf < _ := Int.not_le.1 hq
          rw [szR_no hq]
          have HN : Hid (szR (szP p) left = -1) := by
            show _ = _
            apply szR_no
            have h1 := HT.out
            have h2 := HL.out
            have h3 := hlf.out
            unfold szP
            omega
          go_wp2
          go_ret
          exact ⟨retI HN.out.symm, hw1⟩
      · have HN : Hid (szR (szP p) left = lf) := by
          show _ = _
          have e : p.take k = p := List.take_of_length_le (by omega)
          have h3 := hlf.out
          rw [e] at h3
          rw [szR_yes (by unfold szP; omega)]
          unfold szP
          omega
        go_wp2
        go_ret
        exact ⟨retI HN.out.symm, hb⟩
  · rw [szR_no (n := szP p) (by unfold szP; omega)]
    go_enter Try.func26, Try.ntmps26
    go_wp2
    go_ret
    exact ⟨rfl, Below.refl _ _⟩

set_option maxHeartbeats 800000 in
theorem szProgram (K : Way) (B : Nat) (a : Option Addr) (cap : Nat) (p : Prg) (hs : SaneP p) (w : World) (hm : SK K B w (.slice a p.length cap) p) :
    Calls Try.prog 7 #[.agg #[.slice a p.length cap], .int .i64 1048576] w fun e w' => e = .returned (.int .i64 (szR (szP p) 1048576)) ∧ Below w.heap.size w w' := by
  have HM : Hid (SK K B w (.slice a p.length cap) p) := hm
  have HS : Hid (SaneP p) := hs
  clear hm hs
  go_enter Try.func7, Try.ntmps7
  go_wp2_with fail
  refine (szClasses K B a cap p _ (by omega) (by omega) HS.out _ (SK.on HM.out (Keep.of ((Below.refl _ _).alloc (Nat.le_refl _) _)))).mono ?_
  rintro e w1 ⟨rfl, hb1⟩
  have hw1 : Below w.heap.size w w1 := below_over ((Below.refl _ _).alloc (Nat.le_refl _) _) hb1
  clear hb1
  by_cases h : (szP p : Int) ≤ 1048576
  · have e := szR_yes h
    rw [e]
    have HE : Hid (szR (szP p) 1048576 = 1048576 - (szP p : Int)) := e
    clear e
    go_wp2
    go_ret
    exact ⟨retI HE.out.symm, hw1⟩
  · have e := szR_no (Int.not_le.1 h)
    rw [e]
    have HE : Hid (szR (szP p) 1048576 = -1) := e
    clear e
    go_wp2
    go_ret
    exact ⟨retI HE.out.symm, hw1⟩
end Pg
end Go.Proofs.Ytbfiijfaaknhaaa

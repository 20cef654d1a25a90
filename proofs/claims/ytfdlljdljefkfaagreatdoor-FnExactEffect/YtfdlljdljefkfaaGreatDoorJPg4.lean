/- Contracts of the laws' own counting of what there is in a program. -/
import Derived.Test.YtfdlljdljefkfaaGreatDoorJHi0
namespace Go.Proofs.YtfdlljdljefkfaaGreatDoor
namespace Pg
open Go.ChangeShapes Go.WideShapes Go.ChangeAt Go.RowKit St

/-- What is left, or -1. -/
def szR (n : Nat) (left : Int) : Int := if (n : Int) ≤ left then left - n else -1
theorem szR_yes {n : Nat} {left : Int} (h : (n : Int) ≤ left) : szR n left = left - n := if_pos h
theorem szR_no {n : Nat} {left : Int} (h : left < (n : Int)) : szR n left = -1 := if_neg (by omega)
theorem retI {p q : Int} (h : p = q) : Ending.returned (.int .i64 p) = .returned (.int .i64 q) := by rw [h]
/-- No slice is longer than slices can be. -/
def SaneM (m : Meth) : Prop := m.args.length ≤ 9223372036854775807 ∧ m.code.length ≤ 9223372036854775807
def SaneC (c : Cls) : Prop := c.fields.length ≤ 9223372036854775807 ∧ c.meths.length ≤ 9223372036854775807 ∧ ∀ m ∈ c.meths, SaneM m
def SaneP (p : Prg) : Prop := p.length ≤ 9223372036854775807 ∧ ∀ c ∈ p, SaneC c

set_option maxHeartbeats 400000 in
theorem szInts (a : Option Addr) (n cap : Nat) (left : Int) (h0 : 0 ≤ left) (h1 : left ≤ 1048576) (hn : n ≤ 9223372036854775807) (w : World) :
    Calls Tryz.prog 17 #[.slice a n cap, .int .i64 left] w fun e w' => e = .returned (.int .i64 (szR n left)) ∧ w = w' := by
  by_cases h : (n : Int) ≤ left
  · rw [szR_yes h]
    go_enter Tryz.func17, Tryz.ntmps17
    go_wp2
    go_ret
    exact ⟨rfl, rfl⟩
  · have h : left < (n : Int) := by omega
    rw [szR_no h]
    go_enter Tryz.func17, Tryz.ntmps17
    go_wp2
    go_ret
    exact ⟨rfl, rfl⟩
set_option maxHeartbeats 400000 in
theorem szInsns (a : Option Addr) (n cap : Nat) (left : Int) (h0 : 0 ≤ left) (h1 : left ≤ 1048576) (hn : n ≤ 9223372036854775807) (w : World) :
    Calls Tryz.prog 88 #[.slice a n cap, .int .i64 left] w fun e w' => e = .returned (.int .i64 (szR n left)) ∧ w = w' := by
  by_cases h : (n : Int) ≤ left
  · rw [szR_yes h]
    go_enter Tryz.func88, Tryz.ntmps88
    go_wp2
    go_ret
    exact ⟨rfl, rfl⟩
  · have h : left < (n : Int) := by omega
    rw [szR_no h]
    go_enter Tryz.func88, Tryz.ntmps88
    go_wp2
    go_ret
    exact ⟨rfl, rfl⟩

set_option maxHeartbeats 800000 in
theorem szMethod (name gives : Int) (a a' : Option Addr) (n n' cap cap' : Nat) (left : Int) (h0 : 0 ≤ left) (h1 : left ≤ 1048576) (hn : n ≤ 9223372036854775807) (hn' : n' ≤ 9223372036854775807) (w : World) :
    Calls Tryz.prog 67 #[.agg #[.int .i64 name, .slice a n cap, .int .i64 gives, .slice a' n' cap'], .int .i64 left] w fun e w' => e = .returned (.int .i64 (szR (n + n') left)) ∧ Below w.heap.size w w' := by
  by_cases h : (n : Int) ≤ left
  · by_cases h' : (n' : Int) ≤ left - n
    · rw [szR_yes (n := n + n') (by omega)]
      go_enter Tryz.func67, Tryz.ntmps67
      go_wp2_with fail
      refine (szInts a n cap left h0 h1 hn _).mono ?_
      rw [szR_yes h]
      rintro e w1 ⟨rfl, rfl⟩
      go_wp2_with fail
      refine (szInsns a' n' cap' _ (by omega) (by omega) hn' _).mono ?_
      rw [szR_yes h']
      rintro e w1 ⟨rfl, rfl⟩
      go_wp2
      go_ret
      exact ⟨retI (by omega), (Below.refl _ _).alloc (Nat.le_refl _) _⟩
    · rw [szR_no (n := n + n') (by omega)]
      go_enter Tryz.func67, Tryz.ntmps67
      go_wp2_with fail
      refine (szInts a n cap left h0 h1 hn _).mono ?_
      rw [szR_yes h]
      rintro e w1 ⟨rfl, rfl⟩
      go_wp2_with fail
      refine (szInsns a' n' cap' _ (by omega) (by omega) hn' _).mono ?_
      rw [szR_no h']
      rintro e w1 ⟨rfl, rfl⟩
      go_wp2
      go_ret
      exact ⟨rfl, (Below.refl _ _).alloc (Nat.le_refl _) _⟩
  · rw [szR_no (n := n + n') (by omega)]
    go_enter Tryz.func67, Tryz.ntmps67
    go_wp2_with fail
    refine (szInts a n cap left h0 h1 hn _).mono ?_
    rw [szR_no h]
    rintro e w1 ⟨rfl, rfl⟩
    go_wp2
    go_ret
    exact ⟨rfl, (Below.refl _ _).alloc (Nat.le_refl _) _⟩

set_option maxHeartbeats 800000 in
theorem szMethods (K : Way) (B : Nat) (a : Option Addr) (cap : Nat) (ms : List Meth) (left : Int) (h0 : 0 ≤ left) (h1 : left ≤ 1048576) (hn : ms.length ≤ 9223372036854775807) (hs : ∀ m ∈ ms, SaneM m) (w : World) (hm : SM K B w (.slice a ms.length cap) ms) :
    Calls Tryz.prog 52 #[.slice a ms.length cap, .int .i64 left] w fun e w' => e = .returned (.int .i64 (szR (szMs ms) left)) ∧ Below w.heap.size w w' := by
  have HS : Hid (∀ m ∈ ms, SaneM m) := hs
  have HM : Hid (SM K B w (.slice a ms.length cap) ms) := hm
  clear hs hm
  by_cases h : (ms.length : Int) ≤ left
  · go_enter Tryz.func52, Tryz.ntmps52
    go_wp2
    go_loopw [1, 5] (fun lv i wr => ∃ (k : Nat) (lf : Int), k ≤ ms.length ∧ i = .int .i64 k ∧ lv = .int .i64 lf ∧ 0 ≤ lf ∧ lf ≤ 1048576 ∧ Hid (lf = left - ms.length - sumN ((ms.take k).map szM)) ∧ Below w.heap.size w wr) (fun _ i _ => ms.length - (intOf i).toNat)
    case atStart => exact ⟨0, left - ms.length, Nat.zero_le _, rfl, rfl, by omega, by omega, by show _ = _; simp [sumN], Below.refl _ _⟩
    case round =>
      obtain ⟨k, lf, hk, rfl, rfl, hl0, hl1, hlf, hb⟩ := hrel
      by_cases hlt : k < ms.length
      · have hki : (k : Int) < (ms.length : Int) := by omega
        have HT : Hid (sumN ((ms.take (k + 1)).map szM) = sumN ((ms.take k).map szM) + szM ms[k]) := sumN_take_succ szM ms k hlt
        have HL : Hid (sumN ((ms.take (k + 1)).map szM) ≤ sumN (ms.map szM)) := sumN_take_le szM ms (k + 1)
        have hsm := HS.out _ (List.getElem_mem hlt)
        obtain ⟨b, o, rfl, _, va, vc, c0, c1, c2, c3, hmv⟩ := (SM.on HM.out (Keep.of hb)).get hlt
        obtain ⟨aa, ca, rfl⟩ := hmv.1.form
        obtain ⟨ac, cc, rfl⟩ := K.form hmv.2
        generalize ms[k] = m at *
        have hsm1 := hsm.1
        have hsm2 := hsm.2
        clear hsm hmv HM
        go_wp2_with fail
        refine (szMethod m.name m.gives aa ac m.args.length m.code.length ca cc lf hl0 hl1 hsm1 hsm2 _).mono ?_
        rintro e w1 ⟨rfl, hb1⟩
        have hw1 : Below w.heap.size w w1 := below_over hb hb1
        clear hb1 hb c0 c1 c2 c3
        by_cases hq : ((m.args.length + m.code.length : Nat) : Int) ≤ lf
        · rw [szR_yes hq]
          have hq0 : 0 ≤ lf - ((m.args.length + m.code.length : Nat) : Int) := by omega
          go_wp2
          go_roundw
          case rel =>
            refine ⟨k + 1, _, by omega, by go_num, rfl, by omega, by omega, ?_, hw1⟩
            show _ = _
            rw [HT.out, hlf.out]
            have e : szM m = m.args.length + m.code.length := rfl
            omega
          case measure => simp [intOf]; omega
        · have hq : lf < _ := Int.not_le.1 hq
          rw [szR_no hq]
          have HN : Hid (szR (szMs ms) left = -1) := by
            show _ = _
            apply szR_no
            have h1 := HT.out
            have h2 := HL.out
            have h3 := hlf.out
            have e : szM m = m.args.length + m.code.length := rfl
            unfold szMs
            omega
          go_wp2
          go_ret
          exact ⟨retI HN.out.symm, hw1⟩
      · have HN : Hid (szR (szMs ms) left = lf) := by
          show _ = _
          have e : ms.take k = ms := List.take_of_length_le (by omega)
          have h3 := hlf.out
          rw [e] at h3
          rw [szR_yes (by unfold szMs; omega)]
          unfold szMs
          omega
        go_wp2
        go_ret
        exact ⟨retI HN.out.symm, hb⟩
  · rw [szR_no (n := szMs ms) (by unfold szMs; omega)]
    go_enter Tryz.func52, Tryz.ntmps52
    go_wp2
    go_ret
    exact ⟨rfl, Below.refl _ _⟩

set_option maxHeartbeats 800000 in
theorem szClass (K : Way) (B : Nat) (super : Int) (a a' : Option Addr) (cap cap' : Nat) (c : Cls) (left : Int) (h0 : 0 ≤ left) (h1 : left ≤ 1048576) (hs : SaneC c) (w : World) (hm : SM K B w (.slice a' c.meths.length cap') c.meths) :
    Calls Tryz.prog 31 #[.agg #[.int .i64 super, .slice a c.fields.length cap, .slice a' c.meths.length cap'], .int .i64 left] w fun e w' => e = .returned (.int .i64 (szR (szC c) left)) ∧ Below w.heap.size w w' := by
  have HM : Hid (SM K B w (.slice a' c.meths.length cap') c.meths) := hm
  have hs1 := hs.1
  have hs2 := hs.2.1
  have HS3 : Hid (∀ m ∈ c.meths, SaneM m) := hs.2.2
  clear hm hs
  by_cases h : (c.fields.length : Int) ≤ left
  · by_cases h' : (szMs c.meths : Int) ≤ left - c.fields.length
    · rw [szR_yes (n := szC c) (by unfold szC; omega)]
      go_enter Tryz.func31, Tryz.ntmps31
      go_wp2_with fail
      refine (szInts a _ cap left h0 h1 hs1 _).mono ?_
      rw [szR_yes h]
      rintro e w1 ⟨rfl, rfl⟩
      go_wp2_with fail
      refine (szMethods K B a' cap' c.meths _ (by omega) (by omega) hs2 HS3.out _ (SM.on HM.out (Keep.of ((Below.refl _ _).alloc (Nat.le_refl _) _)))).mono ?_
      rw [szR_yes h']
      rintro e w1 ⟨rfl, hb1⟩
      have hw1 : Below w.heap.size w w1 := below_over ((Below.refl _ _).alloc (Nat.le_refl _) _) hb1
      clear hb1
      go_wp2
      go_ret
      exact ⟨retI (by unfold szC; omega), hw1⟩
    · rw [szR_no (n := szC c) (by unfold szC; omega)]
      go_enter Tryz.func31, Tryz.ntmps31
      go_wp2_with fail
      refine (szInts a _ cap left h0 h1 hs1 _).mono ?_
      rw [szR_yes h]
      rintro e w1 ⟨rfl, rfl⟩
      go_wp2_with fail
      refine (szMethods K B a' cap' c.meths _ (by omega) (by omega) hs2 HS3.out _ (SM.on HM.out (Keep.of ((Below.refl _ _).alloc (Nat.le_refl _) _)))).mono ?_
      rw [szR_no h']
      rintro e w1 ⟨rfl, hb1⟩
      have hw1 : Below w.heap.size w w1 := below_over ((Below.refl _ _).alloc (Nat.le_refl _) _) hb1
      clear hb1
      go_wp2
      go_ret
      exact ⟨rfl, hw1⟩
  · rw [szR_no (n := szC c) (by unfold szC; omega)]
    go_enter Tryz.func31, Tryz.ntmps31
    go_wp2_with fail
    refine (szInts a _ cap left h0 h1 hs1 _).mono ?_
    rw [szR_no h]
    rintro e w1 ⟨rfl, rfl⟩
    go_wp2
    go_ret
    exact ⟨rfl, (Below.refl _ _).alloc (Nat.le_refl _) _⟩

set_option maxHeartbeats 800000 in
theorem szClasses (K : Way) (B : Nat) (a : Option Addr) (cap : Nat) (p : Prg) (left : Int) (h0 : 0 ≤ left) (h1 : left ≤ 1048576) (hs : SaneP p) (w : World) (hm : SK K B w (.slice a p.length cap) p) :
    Calls Tryz.prog 16 #[.slice a p.length cap, .int .i64 left] w fun e w' => e = .returned (.int .i64 (szR (szP p) left)) ∧ Below w.heap.size w w' := by
  have hn := hs.1
  have HS : Hid (∀ m ∈ p, SaneC m) := hs.2
  have HM : Hid (SK K B w (.slice a p.length cap) p) := hm
  clear hs hm
  by_cases h : (p.length : Int) ≤ left
  · go_enter Tryz.func16, Tryz.ntmps16
    go_wp2
    go_loopw [1, 5] (fun lv i wr => ∃ (k : Nat) (lf : Int), k ≤ p.length ∧ i = .int .i64 k ∧ lv = .int .i64 lf ∧ 0 ≤ lf ∧ lf ≤ 1048576 ∧ Hid (lf = left - p.length - sumN ((p.take k).map szC)) ∧ Below w.heap.size w wr) (fun _ i _ => p.length - (intOf i).toNat)
    case atStart => exact ⟨0, left - p.length, Nat.zero_le _, rfl, rfl, by omega, by omega, by show _ = _; simp [sumN], Below.refl _ _⟩
    case round =>
      obtain ⟨k, lf, hk, rfl, rfl, hl0, hl1, hlf, hb⟩ := hrel
      by_cases hlt : k < p.length
      · have hki : (k : Int) < (p.length : Int) := by omega
        have HT : Hid (sumN ((p.take (k + 1)).map szC) = sumN ((p.take k).map szC) + szC p[k]) := sumN_take_succ szC p k hlt
        have HL : Hid (sumN ((p.take (k + 1)).map szC) ≤ sumN (p.map szC)) := sumN_take_le szC p (k + 1)
        have HSM : Hid (SaneC p[k]) := HS.out _ (List.getElem_mem hlt)
        obtain ⟨b, o, rfl, _, vf, vm, c0, c1, c2, hcv⟩ := (SK.on HM.out (Keep.of hb)).get hlt
        obtain ⟨aa, ca, rfl⟩ := hcv.1.form
        obtain ⟨ac, cc, rfl⟩ := hcv.2.form
        have HCV : Hid (SM K B wr (.slice ac p[k].meths.length cc) p[k].meths) := hcv.2
        generalize p[k] = c at *
        clear hcv HM
        go_wp2_with fail
        refine (szClass K B c.super aa ac ca cc c lf hl0 hl1 HSM.out _ HCV.out).mono ?_
        rintro e w1 ⟨rfl, hb1⟩
        have hw1 : Below w.heap.size w w1 := below_over hb hb1
        clear hb1 hb c0 c1 c2 HCV
        by_cases hq : (szC c : Int) ≤ lf
        · rw [szR_yes hq]
          have hq0 : 0 ≤ lf - (szC c : Int) := by omega
          go_wp2
          go_roundw
          case rel =>
            refine ⟨k + 1, _, by omega, by go_num, rfl, by omega, by omega, ?_, hw1⟩
            show _ = _
            rw [HT.out, hlf.out]
            omega
          case measure => simp [intOf]; omega
        · have hq : lf < _ := Int.not_le.1 hq
          rw [szR_no hq]
          have HN : Hid (szR (szP p) left = -1) := by
            show _ = _
            apply szR_no
            have h1 := HT.out
            have h2 := HL.out
            have h3 := hlf.out
            unfold szP
            omega
          go_wp2
          go_ret
          exact ⟨retI HN.out.symm, hw1⟩
      · have HN : Hid (szR (szP p) left = lf) := by
          show _ = _
          have e : p.take k = p := List.take_of_length_le (by omega)
          have h3 := hlf.out
          rw [e] at h3
          rw [szR_yes (by unfold szP; omega)]
          unfold szP
          omega
        go_wp2
        go_ret
        exact ⟨retI HN.out.symm, hb⟩
  · rw [szR_no (n := szP p) (by unfold szP; omega)]
    go_enter Tryz.func16, Tryz.ntmps16
    go_wp2
    go_ret
    exact ⟨rfl, Below.refl _ _⟩

set_option maxHeartbeats 800000 in
theorem szProgram (K : Way) (B : Nat) (a : Option Addr) (cap : Nat) (p : Prg) (hs : SaneP p) (w : World) (hm : SK K B w (.slice a p.length cap) p) :
    Calls Tryz.prog 4 #[.agg #[.slice a p.length cap], .int .i64 1048576] w fun e w' => e = .returned (.int .i64 (szR (szP p) 1048576)) ∧ Below w.heap.size w w' := by
  have HM : Hid (SK K B w (.slice a p.length cap) p) := hm
  have HS : Hid (SaneP p) := hs
  clear hm hs
  go_enter Tryz.func4, Tryz.ntmps4
  go_wp2_with fail
  refine (szClasses K B a cap p _ (by omega) (by omega) HS.out _ (SK.on HM.out (Keep.of ((Below.refl _ _).alloc (Nat.le_refl _) _)))).mono ?_
  rintro e w1 ⟨rfl, hb1⟩
  have hw1 : Below w.heap.size w w1 := below_over ((Below.refl _ _).alloc (Nat.le_refl _) _) hb1
  clear hb1
  by_cases h : (szP p : Int) ≤ 1048576
  · have e := szR_yes h
    rw [e]
    have HE : Hid (szR (szP p) 1048576 = 1048576 - (szP p : Int)) := e
    clear e
    go_wp2
    go_ret
    exact ⟨retI HE.out.symm, hw1⟩
  · have e := szR_no (Int.not_le.1 h)
    rw [e]
    have HE : Hid (szR (szP p) 1048576 = -1) := e
    clear e
    go_wp2
    go_ret
    exact ⟨retI HE.out.symm, hw1⟩
end Pg
end Go.Proofs.YtfdlljdljefkfaaGreatDoor

/- Contracts of the laws' own copying of programs. -/
namespace Go.Proofs.YtfdlljdljefkfaaGreatDoor
namespace Pg
open Go.ChangeShapes Go.WideShapes Go.ChangeAt Go.RowKit St

/-- The first cells of a block, which may be written. -/
def Cells (w : World) (k : Nat) (vs : List Value) : Prop := ∀ i x, vs[i]? = some x → w.cell? ⟨k, i, none⟩ = some x ∧ w.frozen? ⟨k, i, none⟩ = false
theorem Cells.on {u w : World} {k : Nat} {vs : List Value} (h : Cells u k vs) (hb : Below u.heap.size u w) : Cells w k vs := fun i x hx => by
  obtain ⟨h1, h2⟩ := h i x hx
  have l : k < u.heap.size := cell_lt h1
  exact ⟨(hb.cell l).trans h1, (hb.frozen l).trans h2⟩
theorem Cells.new (w : World) (k : Nat) (hk : k = w.heap.size) (vs : List Value) (t : TypeId) : Cells (w.alloc (.cells vs.toArray t)) k vs := by
  subst hk
  intro i x hx
  exact ⟨by simp [go_sem, hx], by simp [go_sem]⟩
theorem Cells.alloc {w : World} {k : Nat} {vs : List Value} (h : Cells w k vs) (o : Obj) : Cells (w.alloc o) k vs := h.on ((Below.refl _ _).alloc (Nat.le_refl _) o)
theorem Cells.set {w : World} {k : Nat} {vs : List Value} (h : Cells w k vs) (i : Nat) (v : Value) : Cells (w.setCell ⟨k, i, none⟩ v) k (vs.set i v) := by
  intro j x hx
  rw [List.getElem?_set] at hx
  split at hx
  · rename_i e
    subst e
    split at hx
    · rename_i hl
      simp at hx
      subst hx
      obtain ⟨h1, h2⟩ := h i _ (List.getElem?_eq_getElem hl)
      exact ⟨World.cell?_setCell_same _ _ _ h1, by simpa using h2⟩
    · simp at hx
  · rename_i e
    obtain ⟨h1, h2⟩ := h j x hx
    exact ⟨(World.cell?_setCell_other _ _ _ _ (fun e' => e (congrArg Addr.off e'))).trans h1, by simpa using h2⟩
theorem Cells.g0 {w : World} {k : Nat} {a : Value} {l : List Value} (h : Cells w k (a :: l)) : w.cell? ⟨k, 0, none⟩ = some a ∧ w.frozen? ⟨k, 0, none⟩ = false := h 0 a rfl
theorem Cells.g1 {w : World} {k : Nat} {a b : Value} {l : List Value} (h : Cells w k (a :: b :: l)) : w.cell? ⟨k, 1, none⟩ = some b ∧ w.frozen? ⟨k, 1, none⟩ = false := h 1 b rfl
theorem Cells.g2 {w : World} {k : Nat} {a b c : Value} {l : List Value} (h : Cells w k (a :: b :: c :: l)) : w.cell? ⟨k, 2, none⟩ = some c ∧ w.frozen? ⟨k, 2, none⟩ = false := h 2 c rfl
theorem Cells.g3 {w : World} {k : Nat} {a b c d : Value} {l : List Value} (h : Cells w k (a :: b :: c :: d :: l)) : w.cell? ⟨k, 3, none⟩ = some d ∧ w.frozen? ⟨k, 3, none⟩ = false := h 3 d rfl
theorem Cells.s0 {w : World} {k : Nat} {a : Value} {l : List Value} (h : Cells w k (a :: l)) (v : Value) : Cells (w.setCell ⟨k, 0, none⟩ v) k (v :: l) := h.set 0 v
theorem Cells.s1 {w : World} {k : Nat} {a b : Value} {l : List Value} (h : Cells w k (a :: b :: l)) (v : Value) : Cells (w.setCell ⟨k, 1, none⟩ v) k (a :: v :: l) := h.set 1 v
theorem Cells.s2 {w : World} {k : Nat} {a b c : Value} {l : List Value} (h : Cells w k (a :: b :: c :: l)) (v : Value) : Cells (w.setCell ⟨k, 2, none⟩ v) k (a :: b :: v :: l) := h.set 2 v
theorem Cells.s3 {w : World} {k : Nat} {a b c d : Value} {l : List Value} (h : Cells w k (a :: b :: c :: d :: l)) (v : Value) : Cells (w.setCell ⟨k, 3, none⟩ v) k (a :: b :: c :: v :: l) := h.set 3 v
theorem Cells.far {w : World} {k : Nat} {vs : List Value} (h : Cells w k vs) (p : Addr) (v : Value) (hp : p.block ≠ k) : Cells (w.setCell p v) k vs := fun i x hx => by
  obtain ⟨h1, h2⟩ := h i x hx
  exact ⟨(World.cell?_setCell_other _ _ _ _ (fun e => hp (by rw [e]))).trans h1, by simpa using h2⟩

theorem SI.rows {f : Bool} {B : Nat} {w : World} {a : Option Addr} {n cap : Nat} {l : List Int} (h : SI f B w (.slice a n cap) l) : 0 < l.length → ∃ b o, a = some ⟨b, o, none⟩ ∧ IRow w b o l := by
  intro h0
  obtain ⟨a', cap', hv, _, h⟩ := h
  injection hv with e1 e2 e3
  subst e1
  obtain ⟨b, o, ha, _, _, hx⟩ := h h0
  exact ⟨b, o, ha, fun j x hj => by have := hx j x hj; rw [Nat.mul_one] at this; exact this⟩
theorem SC.rows {B : Nat} {w : World} {a : Option Addr} {n cap : Nat} {l : List Tx.Ins} (h : SC B w (.slice a n cap) l) : 0 < l.length → ∃ b o, a = some ⟨b, o, none⟩ ∧ Row w b o l := by
  intro h0
  obtain ⟨a', cap', hv, _, h⟩ := h
  injection hv with e1 e2 e3
  subst e1
  obtain ⟨b, o, ha, _, _, hx⟩ := h h0
  exact ⟨b, o, ha, fun j x hj => hx j x hj⟩

theorem toInts' (a : Option Addr) (cap : Nat) (l : List Int) (hl : l.length ≤ 1048576) (w : World) (hr : SI false 0 w (.slice a l.length cap) l) :
    Calls Tryz.prog 23 #[.slice a l.length cap] w fun e w' => ∃ v, e = .returned v ∧ SI true w.heap.size w' v l ∧ Below w.heap.size w w' :=
  (toInts a cap l hl w (SI.rows hr)).mono fun _ _ ⟨h1, h2, h3, h4, h5⟩ => ⟨_, h1, SI.row (Nat.le_refl _) h4 h2 h3, h5⟩
theorem toRow' (a : Option Addr) (cap : Nat) (l : List Tx.Ins) (hl : l.length ≤ 1048576) (w : World) (hr : SC 0 w (.slice a l.length cap) l) :
    Calls Tryz.prog 90 #[.slice a l.length cap] w fun e w' => ∃ v, e = .returned v ∧ CS w.heap.size w' v l ∧ Below w.heap.size w w' :=
  (toRowS a cap l hl w (SC.rows hr)).mono fun _ _ ⟨h1, h2, h3, h4, h5⟩ => ⟨_, h1, ⟨_, _, rfl, Nat.le_refl _, h4, h2, h3⟩, h5⟩

set_option maxRecDepth 100000 in
set_option maxHeartbeats 1000000 in
theorem toMethod (m : Meth) (aa ac : Option Addr) (ca cc : Nat) (h1 : m.args.length ≤ 1048576) (h2 : m.code.length ≤ 1048576) (w : World) (hi : SI false 0 w (.slice aa m.args.length ca) m.args) (hc : SC 0 w (.slice ac m.code.length cc) m.code) :
    Calls Tryz.prog 73 #[.agg #[.int .i64 m.name, .slice aa m.args.length ca, .int .i64 m.gives, .slice ac m.code.length cc]] w fun e w' => ∃ va vc, e = .returned (.agg #[.int .i64 m.name, va, .int .i64 m.gives, vc]) ∧ MV front w.heap.size w' va vc m ∧ Below w.heap.size w w' := by
  have HI : Hid (SI false 0 w (.slice aa m.args.length ca) m.args) := hi
  have HC : Hid (SC 0 w (.slice ac m.code.length cc) m.code) := hc
  clear hi hc
  go_enter Tryz.func73, Tryz.ntmps73
  go_wp2_with fail
  refine (toInts' aa ca m.args h1 _ ?_).mono ?_
  · exact SI.on HI.out (Keep.of (by go_grown))
  rintro e w1 ⟨va, rfl, hi1, hb1⟩
  obtain ⟨a1, c1, rfl⟩ := hi1.form
  have hw1 : Below w.heap.size w w1 := below_over (by go_grown) hb1
  have A1 : Hid (Cells w1 w.heap.size [.int .i64 m.name, .slice aa m.args.length ca, .int .i64 m.gives, .slice ac m.code.length cc]) := by
    show Cells _ _ _
    refine Cells.on ?_ hb1
    exact ((Cells.new w _ rfl _ _).alloc _).alloc _
  have R1 : Hid (Cells w1 (w.heap.size + 1) [.int .i64 0, .slice none 0 0, .int .i64 0, .slice none 0 0]) := by
    show Cells _ _ _
    refine Cells.on ?_ hb1
    exact (Cells.new (w.alloc _) _ (by simp) _ _).alloc _
  have O1 : Hid (Cells w1 (w.heap.size + 1 + 1) [.int .i64 m.name, .slice none 0 0, .int .i64 0, .slice none 0 0]) := by
    show Cells _ _ _
    refine Cells.on ?_ hb1
    exact Cells.new ((w.alloc _).alloc _) _ (by simp) _ _
  have HV1 : Hid (SI true (w.heap.size + 1 + 1 + 1) w1 (.slice a1 m.args.length c1) m.args) := SI.weak hi1 (by simp)
  have hz1 : w.heap.size + 1 + 1 + 1 ≤ w1.heap.size := by have := hb1.size; simpa using this
  clear hi1 hb1
  generalize hs : w.heap.size = s at *
  have HSS : Hid (w.heap.size = s) := hs
  clear hs
  obtain ⟨b2, _⟩ := A1.out.g2
  obtain ⟨o1, p1⟩ := O1.out.g1
  obtain ⟨o2, p2⟩ := O1.out.g2
  have n21 : ∀ i, (⟨s + 1 + 1, i, none⟩ : Addr).block ≠ s + 1 := fun i => by show s + 1 + 1 ≠ s + 1; omega
  have n20 : ∀ i, (⟨s + 1 + 1, i, none⟩ : Addr).block ≠ s := fun i => by show s + 1 + 1 ≠ s; omega
  have N21 : Hid (∀ i, (⟨s + 1 + 1, i, none⟩ : Addr).block ≠ s + 1) := n21
  have N20 : Hid (∀ i, (⟨s + 1 + 1, i, none⟩ : Addr).block ≠ s) := n20
  clear n21 n20
  have a3 := (((A1.out.far ⟨s + 1 + 1, 1, none⟩ (.slice a1 m.args.length c1) (N20.out 0)).far ⟨s + 1 + 1, 2, none⟩ (.int .i64 m.gives) (N20.out 0)).g3).1
  have O2 : Hid (Cells ((w1.setCell ⟨s + 1 + 1, 1, none⟩ (.slice a1 m.args.length c1)).setCell ⟨s + 1 + 1, 2, none⟩ (.int .i64 m.gives)) (s + 1 + 1) [.int .i64 m.name, (.slice a1 m.args.length c1), .int .i64 m.gives, .slice none 0 0]) := (O1.out.s1 (.slice a1 m.args.length c1)).s2 (.int .i64 m.gives)
  have R2 : Hid (Cells ((w1.setCell ⟨s + 1 + 1, 1, none⟩ (.slice a1 m.args.length c1)).setCell ⟨s + 1 + 1, 2, none⟩ (.int .i64 m.gives)) (s + 1) [.int .i64 0, .slice none 0 0, .int .i64 0, .slice none 0 0]) := (R1.out.far ⟨s + 1 + 1, 1, none⟩ (.slice a1 m.args.length c1) (N21.out 0)).far ⟨s + 1 + 1, 2, none⟩ (.int .i64 m.gives) (N21.out 0)
  have hw2 : Below s w ((w1.setCell ⟨s + 1 + 1, 1, none⟩ (.slice a1 m.args.length c1)).setCell ⟨s + 1 + 1, 2, none⟩ (.int .i64 m.gives)) := (hw1.setCell (p := ⟨s + 1 + 1, 1, none⟩) (by simp; omega) _).setCell (p := ⟨s + 1 + 1, 2, none⟩) (by simp; omega) _
  have hk2 : Keep (s + 1 + 1 + 1) w1 ((w1.setCell ⟨s + 1 + 1, 1, none⟩ (.slice a1 m.args.length c1)).setCell ⟨s + 1 + 1, 2, none⟩ (.int .i64 m.gives)) := (Keep.set w1 (p := ⟨s + 1 + 1, 1, none⟩) (by simp) (.slice a1 m.args.length c1)).trans (Keep.set _ (p := ⟨s + 1 + 1, 2, none⟩) (by simp) _)
  have HV2 : Hid (SI true (s + 1 + 1 + 1) ((w1.setCell ⟨s + 1 + 1, 1, none⟩ (.slice a1 m.args.length c1)).setCell ⟨s + 1 + 1, 2, none⟩ (.int .i64 m.gives)) (.slice a1 m.args.length c1) m.args) := SI.on HV1.out hk2
  have hz2 := Nat.le_trans hz1 hk2.size
  have HK2 : Hid (Below s w ((w1.setCell ⟨s + 1 + 1, 1, none⟩ (.slice a1 m.args.length c1)).setCell ⟨s + 1 + 1, 2, none⟩ (.int .i64 m.gives))) := hw2
  clear hk2 HV1 hw1 A1 R1 O1 hw2 hz1
  go_wp2_with fail
  generalize (w1.setCell ⟨s + 1 + 1, 1, none⟩ (.slice a1 m.args.length c1)).setCell ⟨s + 1 + 1, 2, none⟩ (.int .i64 m.gives) = w2 at *
  refine (toRow' ac cc m.code h2 _ (SC.on HC.out (Keep.of (by rw [HSS.out]; exact HK2.out)))).mono ?_
  rintro e w3 ⟨vc, rfl, hc3, hb3⟩
  obtain ⟨a2, c2, rfl⟩ := front.form hc3
  have O3 : Hid (Cells w3 (s + 1 + 1) [.int .i64 m.name, (.slice a1 m.args.length c1), .int .i64 m.gives, .slice none 0 0]) := O2.out.on hb3
  have R3 := R2.out.on hb3
  have HV3 : Hid (SI true (s + 1 + 1 + 1) w3 (.slice a1 m.args.length c1) m.args) := SI.on HV2.out (Keep.of hb3)
  have HC3 : Hid (CS (s + 1 + 1 + 1) w3 (.slice a2 m.code.length c2) m.code) := front.weak hc3 hz2
  have HW3 : Hid (Below s w w3) := HK2.out.trans (hb3.mono (by omega))
  clear hc3 hb3 b2 a3 o1 o2 p1 p2 O2 R2 HV2 HK2 hz2
  have O4 := O3.out.s3 (.slice a2 m.code.length c2)
  have R4 := R3.far ⟨s + 1 + 1, 3, none⟩ (.slice a2 m.code.length c2) (N21.out 0)
  have R5 := (((R4.s0 (.int .i64 m.name)).s1 (.slice a1 m.args.length c1)).s2 (.int .i64 m.gives)).s3 (.slice a2 m.code.length c2)
  obtain ⟨o3, p3⟩ := O3.out.g3
  obtain ⟨i0, _⟩ := O4.g0
  obtain ⟨i1, _⟩ := O4.g1
  obtain ⟨i2, _⟩ := O4.g2
  obtain ⟨i3, _⟩ := O4.g3
  obtain ⟨r0, q0⟩ := R4.g0
  obtain ⟨r1, q1⟩ := R4.g1
  obtain ⟨r2, q2⟩ := R4.g2
  obtain ⟨r3, q3⟩ := R4.g3
  obtain ⟨e0, _⟩ := R5.g0
  obtain ⟨e1, _⟩ := R5.g1
  obtain ⟨e2, _⟩ := R5.g2
  obtain ⟨e3, _⟩ := R5.g3
  clear O4 R4 R5 R3 O3
  go_wp2
  refine bodyPost_ret (v := .agg #[.int .i64 m.name, (.slice a1 m.args.length c1), .int .i64 m.gives, (.slice a2 m.code.length c2)]) (by simp [results, Tryz.results73, go_sem, e0, e1, e2, e3]) rfl ?_
  rw [HSS.out]
  have hk : ∀ (u : World) (j i : Nat) (x : Value), j < s + 1 + 1 + 1 → Keep (s + 1 + 1 + 1) u (u.setCell ⟨j, i, none⟩ x) := fun u j i x hj => Keep.set u (p := ⟨j, i, none⟩) hj x
  have hkk := ((((hk w3 (s + 1 + 1) 3 (.slice a2 m.code.length c2) (by omega)).trans (hk _ (s + 1) 0 (.int .i64 m.name) (by omega))).trans (hk _ (s + 1) 1 (.slice a1 m.args.length c1) (by omega))).trans (hk _ (s + 1) 2 (.int .i64 m.gives) (by omega))).trans (hk _ (s + 1) 3 (.slice a2 m.code.length c2) (by omega))
  have hbb := ((((HW3.out.setCell (p := ⟨s + 1 + 1, 3, none⟩) (by simp; omega) (.slice a2 m.code.length c2)).setCell (p := ⟨s + 1, 0, none⟩) (by simp) (.int .i64 m.name)).setCell (p := ⟨s + 1, 1, none⟩) (by simp) (.slice a1 m.args.length c1)).setCell (p := ⟨s + 1, 2, none⟩) (by simp) (.int .i64 m.gives)).setCell (p := ⟨s + 1, 3, none⟩) (by simp) (.slice a2 m.code.length c2)
  exact ⟨_, _, rfl, ⟨SI.weak (SI.on HV3.out hkk) (by omega), front.weak (front.on HC3.out hkk) (by omega)⟩, hbb⟩
end Pg
end Go.Proofs.YtfdlljdljefkfaaGreatDoor

/- Contracts of the laws' own copying of programs: rows of methods, classes, programs. -/
namespace Go.Proofs.YtfdlljdljefkfaaGreatDoor
namespace Pg
open Go.ChangeShapes Go.WideShapes Go.ChangeAt Go.RowKit St

theorem infoMe : (Tryz.prog.info? 51).map (fun i => (i.zero, i.size, i.bytes)) = some (some (.agg #[.int .i64 0, .slice none 0 0, .int .i64 0, .slice none 0 0]), 4, 64) := by kernel_rfl
theorem infoCl : (Tryz.prog.info? 75).map (fun i => (i.zero, i.size, i.bytes)) = some (some (.agg #[.int .i64 0, .slice none 0 0, .slice none 0 0]), 3, 56) := by kernel_rfl

theorem ne_off {g a b : Nat} (h : a ≠ b) : (⟨g, a, none⟩ : Addr) ≠ ⟨g, b, none⟩ := fun e => h (congrArg Addr.off e)
theorem MAt.far {K : Way} {B g o i : Nat} {w : World} {m : Meth} (h : MAt K B w g o m) (hg : g < B) (hi : i < o ∨ o + 3 < i) (v : Value) : MAt K B (w.setCell ⟨g, i, none⟩ v) g o m := by
  obtain ⟨va, vc, h0, h1, h2, h3, h4⟩ := h
  exact ⟨va, vc, (World.cell?_setCell_other _ _ _ _ (ne_off (by omega))).trans h0, (World.cell?_setCell_other _ _ _ _ (ne_off (by omega))).trans h1, (World.cell?_setCell_other _ _ _ _ (ne_off (by omega))).trans h2, (World.cell?_setCell_other _ _ _ _ (ne_off (by omega))).trans h3, h4.on (Keep.set w (p := ⟨g, i, none⟩) hg v)⟩
theorem CAt.far {K : Way} {B g o i : Nat} {w : World} {m : Cls} (h : CAt K B w g o m) (hg : g < B) (hi : i < o ∨ o + 2 < i) (v : Value) : CAt K B (w.setCell ⟨g, i, none⟩ v) g o m := by
  obtain ⟨va, vc, h0, h1, h2, h4⟩ := h
  exact ⟨va, vc, (World.cell?_setCell_other _ _ _ _ (ne_off (by omega))).trans h0, (World.cell?_setCell_other _ _ _ _ (ne_off (by omega))).trans h1, (World.cell?_setCell_other _ _ _ _ (ne_off (by omega))).trans h2, h4.on (Keep.set w (p := ⟨g, i, none⟩) hg v)⟩
/-- One method more written. -/
theorem meths_next {K : Way} {g k : Nat} {w : World} {ms : List Meth} (hk : k < ms.length) (hroom : Room w g (ms.length * 4)) (h : ∀ j x, (ms.take k)[j]? = some x → MAt K (g + 1) w g (0 + j * 4) x) {va vc : Value} (hv : MV K (g + 1) w va vc ms[k]) :
    ∀ j x, (ms.take (k + 1))[j]? = some x → MAt K (g + 1) ((((w.setCell ⟨g, k * 4, none⟩ (.int .i64 ms[k].name)).setCell ⟨g, k * 4 + 1, none⟩ va).setCell ⟨g, k * 4 + 2, none⟩ (.int .i64 ms[k].gives)).setCell ⟨g, k * 4 + 3, none⟩ vc) g (0 + j * 4) x := by
  intro j x hj
  rw [List.getElem?_take] at hj
  split at hj
  · rename_i hlt
    by_cases e : j = k
    · subst e
      rw [List.getElem?_eq_getElem hk] at hj
      simp at hj
      subst hj
      obtain ⟨⟨x0, h0⟩, _⟩ := hroom (j * 4) (by omega)
      obtain ⟨⟨x1, h1⟩, _⟩ := hroom (j * 4 + 1) (by omega)
      obtain ⟨⟨x2, h2⟩, _⟩ := hroom (j * 4 + 2) (by omega)
      obtain ⟨⟨x3, h3⟩, _⟩ := hroom (j * 4 + 3) (by omega)
      rw [Nat.zero_add]
      have k1 := Keep.set (B := g + 1) w (p := ⟨g, j * 4, none⟩) (by simp) (.int .i64 ms[j].name)
      refine ⟨va, vc, ?_, ?_, ?_, ?_, hv.on (((k1.trans (Keep.set _ (p := ⟨g, j * 4 + 1, none⟩) (by simp) va)).trans (Keep.set _ (p := ⟨g, j * 4 + 2, none⟩) (by simp) _)).trans (Keep.set _ (p := ⟨g, j * 4 + 3, none⟩) (by simp) vc))⟩
      · rw [World.cell?_setCell_other _ _ _ _ (ne_off (by omega)), World.cell?_setCell_other _ _ _ _ (ne_off (by omega)), World.cell?_setCell_other _ _ _ _ (ne_off (by omega))]
        exact World.cell?_setCell_same _ _ _ h0
      · rw [World.cell?_setCell_other _ _ _ _ (ne_off (by omega)), World.cell?_setCell_other _ _ _ _ (ne_off (by omega))]
        exact World.cell?_setCell_same _ _ _ ((World.cell?_setCell_other _ _ _ _ (ne_off (by omega))).trans h1)
      · rw [World.cell?_setCell_other _ _ _ _ (ne_off (by omega))]
        exact World.cell?_setCell_same _ _ _ ((World.cell?_setCell_other _ _ _ _ (ne_off (by omega))).trans ((World.cell?_setCell_other _ _ _ _ (ne_off (by omega))).trans h2))
      · exact World.cell?_setCell_same _ _ _ ((World.cell?_setCell_other _ _ _ _ (ne_off (by omega))).trans ((World.cell?_setCell_other _ _ _ _ (ne_off (by omega))).trans ((World.cell?_setCell_other _ _ _ _ (ne_off (by omega))).trans h3)))
    · have hx := h j x (by rw [List.getElem?_take, if_pos (by omega)]; exact hj)
      exact (((hx.far (by omega) (by omega) _).far (by omega) (by omega) _).far (by omega) (by omega) _).far (by omega) (by omega) _
  · simp at hj
theorem classes_next {K : Way} {g k : Nat} {w : World} {ms : Prg} (hk : k < ms.length) (hroom : Room w g (ms.length * 3)) (h : ∀ j x, (ms.take k)[j]? = some x → CAt K (g + 1) w g (0 + j * 3) x) {vf vm : Value} (hv : CV K (g + 1) w vf vm ms[k]) :
    ∀ j x, (ms.take (k + 1))[j]? = some x → CAt K (g + 1) (((w.setCell ⟨g, k * 3, none⟩ (.int .i64 ms[k].super)).setCell ⟨g, k * 3 + 1, none⟩ vf).setCell ⟨g, k * 3 + 2, none⟩ vm) g (0 + j * 3) x := by
  intro j x hj
  rw [List.getElem?_take] at hj
  split at hj
  · rename_i hlt
    by_cases e : j = k
    · subst e
      rw [List.getElem?_eq_getElem hk] at hj
      simp at hj
      subst hj
      obtain ⟨⟨x0, h0⟩, _⟩ := hroom (j * 3) (by omega)
      obtain ⟨⟨x1, h1⟩, _⟩ := hroom (j * 3 + 1) (by omega)
      obtain ⟨⟨x2, h2⟩, _⟩ := hroom (j * 3 + 2) (by omega)
      rw [Nat.zero_add]
      have k1 := Keep.set (B := g + 1) w (p := ⟨g, j * 3, none⟩) (by simp) (.int .i64 ms[j].super)
      refine ⟨vf, vm, ?_, ?_, ?_, hv.on ((k1.trans (Keep.set _ (p := ⟨g, j * 3 + 1, none⟩) (by simp) vf)).trans (Keep.set _ (p := ⟨g, j * 3 + 2, none⟩) (by simp) vm))⟩
      · rw [World.cell?_setCell_other _ _ _ _ (ne_off (by omega)), World.cell?_setCell_other _ _ _ _ (ne_off (by omega))]
        exact World.cell?_setCell_same _ _ _ h0
      · rw [World.cell?_setCell_other _ _ _ _ (ne_off (by omega))]
        exact World.cell?_setCell_same _ _ _ ((World.cell?_setCell_other _ _ _ _ (ne_off (by omega))).trans h1)
      · exact World.cell?_setCell_same _ _ _ ((World.cell?_setCell_other _ _ _ _ (ne_off (by omega))).trans ((World.cell?_setCell_other _ _ _ _ (ne_off (by omega))).trans h2))
    · have hx := h j x (by rw [List.getElem?_take, if_pos (by omega)]; exact hj)
      exact ((hx.far (by omega) (by omega) _).far (by omega) (by omega) _).far (by omega) (by omega) _
  · simp at hj

/-- All is short. -/
def SmallM (m : Meth) : Prop := m.args.length ≤ 1048576 ∧ m.code.length ≤ 1048576
def SmallC (c : Cls) : Prop := c.fields.length ≤ 1048576 ∧ c.meths.length ≤ 1048576 ∧ ∀ m ∈ c.meths, SmallM m
def SmallP (p : Prg) : Prop := p.length ≤ 1048576 ∧ ∀ c ∈ p, SmallC c
theorem SmallP.of {p : Prg} (h : szP p ≤ 1048576) : SmallP p := by
  refine ⟨by unfold szP at h; omega, fun c hc => ?_⟩
  have h1 := szC_le hc
  have e : szC c = c.fields.length + szMs c.meths := rfl
  have e2 : szMs c.meths = c.meths.length + sumN (c.meths.map szM) := rfl
  refine ⟨by omega, by omega, fun m hm => ?_⟩
  have h2 := szM_le hm
  have e3 : szM m = m.args.length + m.code.length := rfl
  exact ⟨by omega, by omega⟩

set_option maxRecDepth 100000 in
set_option maxHeartbeats 1000000 in
theorem toMethods (ms : List Meth) (a : Option Addr) (cap : Nat) (hn : ms.length ≤ 1048576) (hs : ∀ m ∈ ms, SmallM m) (w : World) (hm : SM wide 0 w (.slice a ms.length cap) ms) :
    Calls Tryz.prog 56 #[.slice a ms.length cap] w fun e w' => ∃ v, e = .returned v ∧ SM front w.heap.size w' v ms ∧ Below w.heap.size w w' := by
  obtain ⟨i0, hi, hz0, hz1, hz2⟩ := info_parts infoMe
  have HM : Hid (SM wide 0 w (.slice a ms.length cap) ms) := hm
  have HS : Hid (∀ m ∈ ms, SmallM m) := hs
  clear hm hs
  go_enter Tryz.func56, Tryz.ntmps56
  go_wp2_with (at_make; refine wpList_make_full _ rfl _ _ 73 rfl w.heap.size 51 i0 (.agg #[.int .i64 0, .slice none 0 0, .int .i64 0, .slice none 0 0]) 4 Tryz.underlying73 hi hz0 hz1 .i64 .i64 _ _ ms.length rfl rfl rfl rfl (by rw [hz2]; omega) (by unfold maxLen; omega) (Nat.le_refl _) ?_; intro w0 hown0 hgrow0)
  have hroom := room_own hown0 (Nat.le_refl _)
  have hsz0 : w.heap.size < w0.heap.size := row_made_lt hown0
  have hb0 : Below w.heap.size w w0 := (Below.refl _ _).grown hgrow0 (Nat.le_refl _) (fun _ h => by simp at h)
  clear hown0 hgrow0
  go_loopw [4] (fun i wr => ∃ k : Nat, k ≤ ms.length ∧ i = .int .i64 k ∧ Hid (Room wr w.heap.size (ms.length * 4)) ∧ Hid (∀ j x, (ms.take k)[j]? = some x → MAt front (w.heap.size + 1) wr w.heap.size (0 + j * 4) x) ∧ w.heap.size < wr.heap.size ∧ Below w.heap.size w wr) (fun i _ => ms.length - (intOf i).toNat)
  case atStart => exact ⟨0, Nat.zero_le _, rfl, hroom, fun j x h => by simp at h, hsz0, hb0⟩
  case round =>
    obtain ⟨k, hk, rfl, hrm, hrw, hsz, hb⟩ := hrel
    by_cases hlt : k < ms.length
    · obtain ⟨b, o, rfl, _, va, vc, h0, h1, h2, h3, hmv⟩ := (SM.on HM.out (Keep.of hb)).get hlt
      obtain ⟨aa, ca, rfl⟩ := hmv.1.form
      obtain ⟨ac, cc, rfl⟩ := wide.form hmv.2
      have HMA : Hid (SI false 0 wr (.slice aa ms[k].args.length ca) ms[k].args) := hmv.1
      have HMC : Hid (SC 0 wr (.slice ac ms[k].code.length cc) ms[k].code) := hmv.2
      have hsm := HS.out _ (List.getElem_mem hlt)
      obtain ⟨⟨x0, d0⟩, f0⟩ := hrm.out (k * 4) (by omega)
      obtain ⟨⟨x1, d1⟩, f1⟩ := hrm.out (k * 4 + 1) (by omega)
      obtain ⟨⟨x2, d2⟩, f2⟩ := hrm.out (k * 4 + 2) (by omega)
      obtain ⟨⟨x3, d3⟩, f3⟩ := hrm.out (k * 4 + 3) (by omega)
      have HN : Hid (∀ u, Below wr.heap.size wr u → ∀ va vc, MV front (w.heap.size + 1) u va vc ms[k] → ∀ j x, (ms.take (k + 1))[j]? = some x → MAt front (w.heap.size + 1) ((((u.setCell ⟨w.heap.size, k * 4, none⟩ (.int .i64 ms[k].name)).setCell ⟨w.heap.size, k * 4 + 1, none⟩ va).setCell ⟨w.heap.size, k * 4 + 2, none⟩ (.int .i64 ms[k].gives)).setCell ⟨w.heap.size, k * 4 + 3, none⟩ vc) w.heap.size (0 + j * 4) x) :=
        fun u hu va vc hv => meths_next hlt (hrm.out.on hu) (fun j x hj => by
          obtain ⟨q1, q2, c0, c1, c2, c3, c4⟩ := hrw.out j x hj
          have l : w.heap.size < wr.heap.size := hsz
          exact ⟨q1, q2, (hu.cell l).trans c0, (hu.cell l).trans c1, (hu.cell l).trans c2, (hu.cell l).trans c3, c4.on (Keep.of hu)⟩) hv
      clear hrw hmv HM
      generalize ms[k] = m at *
      go_wp2_with fail
      refine (toMethod m aa ac ca cc hsm.1 hsm.2 _ HMA.out HMC.out).mono ?_
      rintro e w1 ⟨va, vc, rfl, hv1, hb1⟩
      obtain ⟨a1, c1, rfl⟩ := hv1.1.form
      obtain ⟨a2, c2, rfl⟩ := front.form hv1.2
      have hw1 : Below w.heap.size w w1 := below_over hb hb1
      have hsz1 : w.heap.size < w1.heap.size := Nat.lt_of_lt_of_le hsz hb1.size
      have l0 : w.heap.size < wr.heap.size := hsz
      have d0' := (hb1.cell l0).trans d0
      have d1' := (hb1.cell l0).trans d1
      have d2' := (hb1.cell l0).trans d2
      have d3' := (hb1.cell l0).trans d3
      have f0' := (hb1.frozen l0).trans f0
      have f1' := (hb1.frozen l0).trans f1
      have f2' := (hb1.frozen l0).trans f2
      have f3' := (hb1.frozen l0).trans f3
      have HRM : Hid (Room w1 w.heap.size (ms.length * 4)) := hrm.out.on hb1
      have HNX : Hid (∀ j x, (ms.take (k + 1))[j]? = some x → MAt front (w.heap.size + 1) ((((w1.setCell ⟨w.heap.size, k * 4, none⟩ (.int .i64 m.name)).setCell ⟨w.heap.size, k * 4 + 1, none⟩ (.slice a1 m.args.length c1)).setCell ⟨w.heap.size, k * 4 + 2, none⟩ (.int .i64 m.gives)).setCell ⟨w.heap.size, k * 4 + 3, none⟩ (.slice a2 m.code.length c2)) w.heap.size (0 + j * 4) x) := HN.out w1 hb1 _ _ (hv1.weak hsz)
      clear d0 d1 d2 d3 f0 f1 f2 f3 h0 h1 h2 h3 hb1 hrm HN hb hv1 hsm HMA HMC
      go_wp2
      go_roundw
      case rel => exact ⟨k + 1, by omega, by go_num, (((HRM.out.set _ _).set _ _).set _ _).set _ _, HNX.out, by simpa using hsz1, (((hw1.setCell (Nat.le_refl _) _).setCell (Nat.le_refl _) _).setCell (Nat.le_refl _) _).setCell (Nat.le_refl _) _⟩
      case measure => simp [intOf]; omega
    · have e : ms.take k = ms := List.take_of_length_le (by omega)
      have HE := hrw.out
      rw [e] at HE
      have HEE : Hid (∀ j x, ms[j]? = some x → MAt front (w.heap.size + 1) wr w.heap.size (0 + j * 4) x) := HE
      clear HE e
      go_wp2
      go_ret
      exact ⟨_, rfl, ⟨_, _, rfl, fun _ h => by simp at h, fun _ => ⟨w.heap.size, 0, rfl, Nat.le_refl _, ⟨hsz, fun _ j hj => by rw [Nat.zero_add]; exact (hrm.out j hj).2⟩, fun j x hj => by
        obtain ⟨q1, q2, c0, c1, c2, c3, c4⟩ := HEE.out j x hj
        exact ⟨q1, q2, c0, c1, c2, c3, c4.weak (by omega)⟩⟩⟩, hb⟩

set_option maxRecDepth 100000 in
set_option maxHeartbeats 1000000 in
theorem toClass (c : Cls) (aa ac : Option Addr) (ca cc : Nat) (hs : SmallC c) (w : World) (hi : SI false 0 w (.slice aa c.fields.length ca) c.fields) (hc : SM wide 0 w (.slice ac c.meths.length cc) c.meths) :
    Calls Tryz.prog 43 #[.agg #[.int .i64 c.super, .slice aa c.fields.length ca, .slice ac c.meths.length cc]] w fun e w' => ∃ va vc, e = .returned (.agg #[.int .i64 c.super, va, vc]) ∧ CV front w.heap.size w' va vc c ∧ Below w.heap.size w w' := by
  have HI : Hid (SI false 0 w (.slice aa c.fields.length ca) c.fields) := hi
  have HC : Hid (SM wide 0 w (.slice ac c.meths.length cc) c.meths) := hc
  have h1 := hs.1
  have h2 := hs.2.1
  have HSM : Hid (∀ m ∈ c.meths, SmallM m) := hs.2.2
  clear hi hc hs
  go_enter Tryz.func43, Tryz.ntmps43
  go_wp2_with fail
  refine (toInts' aa ca c.fields h1 _ ?_).mono ?_
  · exact SI.on HI.out (Keep.of (by go_grown))
  rintro e w1 ⟨va, rfl, hi1, hb1⟩
  obtain ⟨a1, c1, rfl⟩ := hi1.form
  have hw1 : Below w.heap.size w w1 := below_over (by go_grown) hb1
  have A1 : Hid (Cells w1 w.heap.size [.int .i64 c.super, .slice aa c.fields.length ca, .slice ac c.meths.length cc]) := by
    show Cells _ _ _
    refine Cells.on ?_ hb1
    exact ((Cells.new w _ rfl _ _).alloc _).alloc _
  have R1 : Hid (Cells w1 (w.heap.size + 1) [.int .i64 0, .slice none 0 0, .slice none 0 0]) := by
    show Cells _ _ _
    refine Cells.on ?_ hb1
    exact (Cells.new (w.alloc _) _ (by simp) _ _).alloc _
  have O1 : Hid (Cells w1 (w.heap.size + 1 + 1) [.int .i64 c.super, .slice none 0 0, .slice none 0 0]) := by
    show Cells _ _ _
    refine Cells.on ?_ hb1
    exact Cells.new ((w.alloc _).alloc _) _ (by simp) _ _
  have HV1 : Hid (SI true (w.heap.size + 1 + 1 + 1) w1 (.slice a1 c.fields.length c1) c.fields) := SI.weak hi1 (by simp)
  have hz1 : w.heap.size + 1 + 1 + 1 ≤ w1.heap.size := by have := hb1.size; simpa using this
  clear hi1 hb1
  generalize hs : w.heap.size = s at *
  have HSS : Hid (w.heap.size = s) := hs
  clear hs
  obtain ⟨o1, p1⟩ := O1.out.g1
  have N21 : Hid (s + 1 + 1 ≠ s + 1) := by show s + 1 + 1 ≠ s + 1; omega
  have N20 : Hid (s + 1 + 1 ≠ s) := by show s + 1 + 1 ≠ s; omega
  have a3 := ((A1.out.far ⟨s + 1 + 1, 1, none⟩ (.slice a1 c.fields.length c1) N20.out).g2).1
  have O2 : Hid (Cells (w1.setCell ⟨s + 1 + 1, 1, none⟩ (.slice a1 c.fields.length c1)) (s + 1 + 1) [.int .i64 c.super, .slice a1 c.fields.length c1, .slice none 0 0]) := O1.out.s1 (.slice a1 c.fields.length c1)
  have R2 : Hid (Cells (w1.setCell ⟨s + 1 + 1, 1, none⟩ (.slice a1 c.fields.length c1)) (s + 1) [.int .i64 0, .slice none 0 0, .slice none 0 0]) := R1.out.far ⟨s + 1 + 1, 1, none⟩ (.slice a1 c.fields.length c1) N21.out
  have hk2 : Keep (s + 1 + 1 + 1) w1 (w1.setCell ⟨s + 1 + 1, 1, none⟩ (.slice a1 c.fields.length c1)) := Keep.set w1 (p := ⟨s + 1 + 1, 1, none⟩) (by simp) _
  have HV2 : Hid (SI true (s + 1 + 1 + 1) (w1.setCell ⟨s + 1 + 1, 1, none⟩ (.slice a1 c.fields.length c1)) (.slice a1 c.fields.length c1) c.fields) := SI.on HV1.out hk2
  have hz2 := Nat.le_trans hz1 hk2.size
  have HK2 : Hid (Below s w (w1.setCell ⟨s + 1 + 1, 1, none⟩ (.slice a1 c.fields.length c1))) := hw1.setCell (p := ⟨s + 1 + 1, 1, none⟩) (by simp; omega) _
  clear hk2 HV1 hw1 A1 R1 O1 hz1
  go_wp2_with fail
  generalize w1.setCell ⟨s + 1 + 1, 1, none⟩ (.slice a1 c.fields.length c1) = w2 at *
  refine (toMethods c.meths ac cc h2 HSM.out _ (SM.on HC.out (Keep.of (by rw [HSS.out]; exact HK2.out)))).mono ?_
  rintro e w3 ⟨vc, rfl, hc3, hb3⟩
  obtain ⟨a2, c2, rfl⟩ := hc3.form
  have O3 : Hid (Cells w3 (s + 1 + 1) [.int .i64 c.super, .slice a1 c.fields.length c1, .slice none 0 0]) := O2.out.on hb3
  have R3 := R2.out.on hb3
  have HV3 : Hid (SI true (s + 1 + 1 + 1) w3 (.slice a1 c.fields.length c1) c.fields) := SI.on HV2.out (Keep.of hb3)
  have HC3 : Hid (SM front (s + 1 + 1 + 1) w3 (.slice a2 c.meths.length c2) c.meths) := SM.weak hc3 hz2
  have HW3 : Hid (Below s w w3) := HK2.out.trans (hb3.mono (by omega))
  clear hc3 hb3 a3 o1 p1 O2 R2 HV2 HK2 hz2
  have O4 := O3.out.s2 (.slice a2 c.meths.length c2)
  have R4 := R3.far ⟨s + 1 + 1, 2, none⟩ (.slice a2 c.meths.length c2) N21.out
  have R5 := ((R4.s0 (.int .i64 c.super)).s1 (.slice a1 c.fields.length c1)).s2 (.slice a2 c.meths.length c2)
  obtain ⟨o3, p3⟩ := O3.out.g2
  obtain ⟨i0, _⟩ := O4.g0
  obtain ⟨i1, _⟩ := O4.g1
  obtain ⟨i2, _⟩ := O4.g2
  obtain ⟨r0, q0⟩ := R4.g0
  obtain ⟨r1, q1⟩ := R4.g1
  obtain ⟨r2, q2⟩ := R4.g2
  obtain ⟨e0, _⟩ := R5.g0
  obtain ⟨e1, _⟩ := R5.g1
  obtain ⟨e2, _⟩ := R5.g2
  clear O4 R4 R5 R3 O3
  go_wp2
  refine bodyPost_ret (v := .agg #[.int .i64 c.super, .slice a1 c.fields.length c1, .slice a2 c.meths.length c2]) (by simp [results, Tryz.results43, go_sem, e0, e1, e2]) rfl ?_
  rw [HSS.out]
  have hk : ∀ (u : World) (j i : Nat) (x : Value), j < s + 1 + 1 + 1 → Keep (s + 1 + 1 + 1) u (u.setCell ⟨j, i, none⟩ x) := fun u j i x hj => Keep.set u (p := ⟨j, i, none⟩) hj x
  have hkk := (((hk w3 (s + 1 + 1) 2 (.slice a2 c.meths.length c2) (by omega)).trans (hk _ (s + 1) 0 (.int .i64 c.super) (by omega))).trans (hk _ (s + 1) 1 (.slice a1 c.fields.length c1) (by omega))).trans (hk _ (s + 1) 2 (.slice a2 c.meths.length c2) (by omega))
  have hbb := (((HW3.out.setCell (p := ⟨s + 1 + 1, 2, none⟩) (by simp; omega) (.slice a2 c.meths.length c2)).setCell (p := ⟨s + 1, 0, none⟩) (by simp) (.int .i64 c.super)).setCell (p := ⟨s + 1, 1, none⟩) (by simp) (.slice a1 c.fields.length c1)).setCell (p := ⟨s + 1, 2, none⟩) (by simp) (.slice a2 c.meths.length c2)
  exact ⟨_, _, rfl, ⟨SI.weak (SI.on HV3.out hkk) (by omega), SM.weak (SM.on HC3.out hkk) (by omega)⟩, hbb⟩

set_option maxRecDepth 100000 in
set_option maxHeartbeats 1000000 in
theorem toClasses (ms : Prg) (a : Option Addr) (cap : Nat) (hs0 : SmallP ms) (w : World) (hm : SK wide 0 w (.slice a ms.length cap) ms) :
    Calls Tryz.prog 22 #[.slice a ms.length cap] w fun e w' => ∃ v, e = .returned v ∧ SK front w.heap.size w' v ms ∧ Below w.heap.size w w' := by
  obtain ⟨i0, hi, hz0, hz1, hz2⟩ := info_parts infoCl
  have hn := hs0.1
  have HM : Hid (SK wide 0 w (.slice a ms.length cap) ms) := hm
  have HS : Hid (∀ m ∈ ms, SmallC m) := hs0.2
  clear hm hs0
  go_enter Tryz.func22, Tryz.ntmps22
  go_wp2_with (at_make; refine wpList_make_full _ rfl _ _ 35 rfl w.heap.size 75 i0 (.agg #[.int .i64 0, .slice none 0 0, .slice none 0 0]) 3 Tryz.underlying35 hi hz0 hz1 .i64 .i64 _ _ ms.length rfl rfl rfl rfl (by rw [hz2]; omega) (by unfold maxLen; omega) (Nat.le_refl _) ?_; intro w0 hown0 hgrow0)
  have hroom := room_own hown0 (Nat.le_refl _)
  have hsz0 : w.heap.size < w0.heap.size := row_made_lt hown0
  have hb0 : Below w.heap.size w w0 := (Below.refl _ _).grown hgrow0 (Nat.le_refl _) (fun _ h => by simp at h)
  clear hown0 hgrow0
  go_loopw [4] (fun i wr => ∃ k : Nat, k ≤ ms.length ∧ i = .int .i64 k ∧ Hid (Room wr w.heap.size (ms.length * 3)) ∧ Hid (∀ j x, (ms.take k)[j]? = some x → CAt front (w.heap.size + 1) wr w.heap.size (0 + j * 3) x) ∧ w.heap.size < wr.heap.size ∧ Below w.heap.size w wr) (fun i _ => ms.length - (intOf i).toNat)
  case atStart => exact ⟨0, Nat.zero_le _, rfl, hroom, fun j x h => by simp at h, hsz0, hb0⟩
  case round =>
    obtain ⟨k, hk, rfl, hrm, hrw, hsz, hb⟩ := hrel
    by_cases hlt : k < ms.length
    · obtain ⟨b, o, rfl, _, va, vc, h0, h1, h2, hmv⟩ := (SK.on HM.out (Keep.of hb)).get hlt
      obtain ⟨aa, ca, rfl⟩ := hmv.1.form
      obtain ⟨ac, cc, rfl⟩ := hmv.2.form
      have HMA : Hid (SI false 0 wr (.slice aa ms[k].fields.length ca) ms[k].fields) := hmv.1
      have HMC : Hid (SM wide 0 wr (.slice ac ms[k].meths.length cc) ms[k].meths) := hmv.2
      have HSM : Hid (SmallC ms[k]) := HS.out _ (List.getElem_mem hlt)
      obtain ⟨⟨x0, d0⟩, f0⟩ := hrm.out (k * 3) (by omega)
      obtain ⟨⟨x1, d1⟩, f1⟩ := hrm.out (k * 3 + 1) (by omega)
      obtain ⟨⟨x2, d2⟩, f2⟩ := hrm.out (k * 3 + 2) (by omega)
      have HN : Hid (∀ u, Below wr.heap.size wr u → ∀ va vc, CV front (w.heap.size + 1) u va vc ms[k] → ∀ j x, (ms.take (k + 1))[j]? = some x → CAt front (w.heap.size + 1) (((u.setCell ⟨w.heap.size, k * 3, none⟩ (.int .i64 ms[k].super)).setCell ⟨w.heap.size, k * 3 + 1, none⟩ va).setCell ⟨w.heap.size, k * 3 + 2, none⟩ vc) w.heap.size (0 + j * 3) x) :=
        fun u hu va vc hv => classes_next hlt (hrm.out.on hu) (fun j x hj => by
          obtain ⟨q1, q2, c0, c1, c2, c4⟩ := hrw.out j x hj
          have l : w.heap.size < wr.heap.size := hsz
          exact ⟨q1, q2, (hu.cell l).trans c0, (hu.cell l).trans c1, (hu.cell l).trans c2, c4.on (Keep.of hu)⟩) hv
      clear hrw hmv HM
      generalize ms[k] = m at *
      go_wp2_with fail
      refine (toClass m aa ac ca cc HSM.out _ HMA.out HMC.out).mono ?_
      rintro e w1 ⟨va, vc, rfl, hv1, hb1⟩
      obtain ⟨a1, c1, rfl⟩ := hv1.1.form
      obtain ⟨a2, c2, rfl⟩ := hv1.2.form
      have hw1 : Below w.heap.size w w1 := below_over hb hb1
      have hsz1 : w.heap.size < w1.heap.size := Nat.lt_of_lt_of_le hsz hb1.size
      have l0 : w.heap.size < wr.heap.size := hsz
      have d0' := (hb1.cell l0).trans d0
      have d1' := (hb1.cell l0).trans d1
      have d2' := (hb1.cell l0).trans d2
      have f0' := (hb1.frozen l0).trans f0
      have f1' := (hb1.frozen l0).trans f1
      have f2' := (hb1.frozen l0).trans f2
      have HRM : Hid (Room w1 w.heap.size (ms.length * 3)) := hrm.out.on hb1
      have HNX : Hid (∀ j x, (ms.take (k + 1))[j]? = some x → CAt front (w.heap.size + 1) (((w1.setCell ⟨w.heap.size, k * 3, none⟩ (.int .i64 m.super)).setCell ⟨w.heap.size, k * 3 + 1, none⟩ (.slice a1 m.fields.length c1)).setCell ⟨w.heap.size, k * 3 + 2, none⟩ (.slice a2 m.meths.length c2)) w.heap.size (0 + j * 3) x) := HN.out w1 hb1 _ _ (hv1.weak hsz)
      clear d0 d1 d2 f0 f1 f2 h0 h1 h2 hb1 hrm HN hb hv1 HSM HMA HMC
      go_wp2
      go_roundw
      case rel => exact ⟨k + 1, by omega, by go_num, ((HRM.out.set _ _).set _ _).set _ _, HNX.out, by simpa using hsz1, ((hw1.setCell (Nat.le_refl _) _).setCell (Nat.le_refl _) _).setCell (Nat.le_refl _) _⟩
      case measure => simp [intOf]; omega
    · have e : ms.take k = ms := List.take_of_length_le (by omega)
      have HE := hrw.out
      rw [e] at HE
      have HEE : Hid (∀ j x, ms[j]? = some x → CAt front (w.heap.size + 1) wr w.heap.size (0 + j * 3) x) := HE
      clear HE e
      go_wp2
      go_ret
      exact ⟨_, rfl, ⟨_, _, rfl, fun _ h => by simp at h, fun _ => ⟨w.heap.size, 0, rfl, Nat.le_refl _, ⟨hsz, fun _ j hj => by rw [Nat.zero_add]; exact (hrm.out j hj).2⟩, fun j x hj => by
        obtain ⟨q1, q2, c0, c1, c2, c4⟩ := HEE.out j x hj
        exact ⟨q1, q2, c0, c1, c2, c4.weak (by omega)⟩⟩⟩, hb⟩

set_option maxRecDepth 100000 in
set_option maxHeartbeats 1000000 in
theorem toProgram (p : Prg) (a : Option Addr) (cap : Nat) (hs : SmallP p) (w : World) (hm : SK wide 0 w (.slice a p.length cap) p) :
    Calls Tryz.prog 7 #[.agg #[.slice a p.length cap]] w fun e w' => ∃ v, e = .returned (.agg #[v]) ∧ SK front w.heap.size w' v p ∧ Below w.heap.size w w' := by
  have HM : Hid (SK wide 0 w (.slice a p.length cap) p) := hm
  have HS : Hid (SmallP p) := hs
  clear hm hs
  go_enter Tryz.func7, Tryz.ntmps7
  go_wp2_with fail
  refine (toClasses p a cap HS.out _ ?_).mono ?_
  · exact SK.on HM.out (Keep.of (by go_grown))
  rintro e w1 ⟨v, rfl, hv, hb1⟩
  obtain ⟨a1, c1, rfl⟩ := hv.form
  have hw1 : Below w.heap.size w w1 := below_over (by go_grown) hb1
  have R1 : Hid (Cells w1 (w.heap.size + 1) [.slice none 0 0]) := by
    show Cells _ _ _
    refine Cells.on ?_ hb1
    exact (Cells.new (w.alloc _) _ (by simp) _ _).alloc _
  have O1 : Hid (Cells w1 (w.heap.size + 1 + 1) [.slice none 0 0]) := by
    show Cells _ _ _
    refine Cells.on ?_ hb1
    exact Cells.new ((w.alloc _).alloc _) _ (by simp) _ _
  have HV1 : Hid (SK front (w.heap.size + 1 + 1 + 1) w1 (.slice a1 p.length c1) p) := SK.weak hv (by simp)
  clear hv hb1
  generalize hs : w.heap.size = s at *
  have HSS : Hid (w.heap.size = s) := hs
  clear hs
  have N21 : Hid (s + 1 + 1 ≠ s + 1) := by show s + 1 + 1 ≠ s + 1; omega
  have O4 := O1.out.s0 (.slice a1 p.length c1)
  have R4 := R1.out.far ⟨s + 1 + 1, 0, none⟩ (.slice a1 p.length c1) N21.out
  have R5 := R4.s0 (.slice a1 p.length c1)
  obtain ⟨o3, p3⟩ := O1.out.g0
  obtain ⟨i0, _⟩ := O4.g0
  obtain ⟨r0, q0⟩ := R4.g0
  obtain ⟨e0, _⟩ := R5.g0
  have HW : Hid (Below s w w1) := hw1
  clear O4 R4 R5 R1 O1 hw1
  go_wp2
  refine bodyPost_ret (v := .agg #[.slice a1 p.length c1]) (by simp [results, Tryz.results7, go_sem, e0]) rfl ?_
  rw [HSS.out]
  have hk : ∀ (u : World) (j i : Nat) (x : Value), j < s + 1 + 1 + 1 → Keep (s + 1 + 1 + 1) u (u.setCell ⟨j, i, none⟩ x) := fun u j i x hj => Keep.set u (p := ⟨j, i, none⟩) hj x
  have hkk := (hk w1 (s + 1 + 1) 0 (.slice a1 p.length c1) (by omega)).trans (hk _ (s + 1) 0 (.slice a1 p.length c1) (by omega))
  have hbb := (HW.out.setCell (p := ⟨s + 1 + 1, 0, none⟩) (by simp; omega) (.slice a1 p.length c1)).setCell (p := ⟨s + 1, 0, none⟩) (by simp) (.slice a1 p.length c1)
  exact ⟨_, rfl, SK.weak (SK.on HV1.out hkk) (by omega), hbb⟩
end Pg
end Go.Proofs.YtfdlljdljefkfaaGreatDoor

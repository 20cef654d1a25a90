/- Contracts: how many are ahead; what stays, the program's side. -/
import Derived.Test.YtlbjnlkeagmpoaaTh1
namespace Go.Proofs.Ytlbjnlkeagmpoaa
namespace Pg
open Go.ChangeShapes Go.WideShapes Go.ChangeAt Go.RowKit St

set_option maxRecDepth 100000 in
set_option maxHeartbeats 1000000 in
theorem below_at (P : Nat → Bool) (n : Nat) (hn : n ≤ 40) (w : World) :
    Calls Try.prog 51 #[.agg (chi 40 P).toArray, .int .i64 n] w fun e w' => e = .returned (.int .i64 (ahd P n)) ∧ Below w.heap.size w w' := by
  have hn0 : (0 : Int) ≤ (n : Int) := by omega
  have hni : (n : Int) ≤ 40 := by omega
  have C0 : Hid (Cells (w.alloc (.cells (chi 40 P).toArray 45)) w.heap.size (chi 40 P)) := Cells.new w _ rfl _ _
  have hb0 : Below w.heap.size w (w.alloc (.cells (chi 40 P).toArray 45)) := (Below.refl _ _).alloc (Nat.le_refl _) _
  go_enter Try.func51, Try.ntmps51
  go_wp2
  generalize w.alloc (.cells (chi 40 P).toArray 45) = W at *
  go_loopw [5, 11] (fun c i wr => ∃ k : Nat, k ≤ n ∧ i = .int .i64 k ∧ c = .int .i64 (ahd P k : Nat) ∧ wr = W) (fun _ i _ => n - (intOf i).toNat)
  case atStart => exact ⟨0, Nat.zero_le _, rfl, by simp [ahd, risL_zero], rfl⟩
  case round =>
    obtain ⟨k, hk, rfl, rfl, rfl⟩ := hrel
    by_cases hlt : k < n
    · have hki : (k : Int) < (n : Int) := by omega
      have c0 := (C0.out k _ (chi_at P (by omega))).1
      have HS : Hid (ahd P (k + 1) = ahd P k + (if P k then 1 else 0)) := ahd_succ P k
      have hle : ((ahd P k : Nat) : Int) ≤ 40 := by have := ahd_le P k; omega
      have hge : (0 : Int) ≤ ((ahd P k : Nat) : Int) := by omega
      generalize ahd P k = c at *
      cases hp : P k
      · rw [hp] at c0
        have HS' : Hid (ahd P (k + 1) = c) := by show _ = _; rw [HS.out, hp]; rfl
        clear HS hp
        go_wp2
        go_roundw
        case rel => exact ⟨k + 1, by omega, by go_num, by rw [HS'.out], by simp⟩
        case measure => simp [intOf]; omega
      · rw [hp] at c0
        have HS' : Hid (ahd P (k + 1) = c + 1) := by show _ = _; rw [HS.out, hp]; rfl
        clear HS hp
        go_wp2
        go_roundw
        case rel => exact ⟨k + 1, by omega, by go_num, by rw [HS'.out]; go_num, by simp⟩
        case measure => simp [intOf]; omega
    · obtain rfl : k = n := by omega
      go_wp2
      go_ret
      exact ⟨rfl, hb0⟩
set_option maxRecDepth 100000 in
set_option maxHeartbeats 1000000 in
theorem goesToNext_at (op A b : Int) (k : Nat) (hk : k ≤ 40) (w : World) :
    Calls Try.prog 48 #[.agg #[.int .i64 op, .int .i64 A, .int .i64 b], .int .i64 k] w fun e w' => e = .returned (.bool (decide (A = (k : Int) + 1))) ∧ Below w.heap.size w w' := by
  have hki : (k : Int) ≤ 40 := by omega
  have hk0 : (0 : Int) ≤ (k : Int) := by omega
  go_enter Try.func48, Try.ntmps48
  go_wp2
  go_ret
  exact ⟨by by_cases h : A = (k : Int) + 1 <;> simp [h], (Below.refl _ _).alloc (Nat.le_refl _) _⟩
theorem nxt_step {code : List Tx.Ins} {k : Nat} {P : Nat → Bool} (hP : ∀ j, P j = (rchB code j && !(decide (j < k) && nxtB code j))) (j : Nat) : (rchB code j && !(decide (j < k + 1) && nxtB code j)) = if j = k then (P k && !(nxtB code k)) else P j := by
  by_cases e : j = k
  · subst e; rw [if_pos rfl, hP]; simp
  · rw [if_neg e, hP, show decide (j < k + 1) = decide (j < k) from by by_cases h : j < k <;> simp [h] <;> omega]
set_option maxRecDepth 100000 in
set_option maxHeartbeats 4000000 in
theorem staysIn_at (g yc : Nat) (code : List Tx.Ins) (hok : Lay.codeOk code = true) (w : World) (hrow : Row w g 0 code) :
    Calls Try.prog 37 #[.slice (some ⟨g, 0, none⟩) code.length yc] w fun e w' => e = .returned (.agg (chi 40 (stB code)).toArray) ∧ Below w.heap.size w w' := by
  have hl40 := (Lay.ok_len hok).2
  have hl0 := (Lay.ok_len hok).1
  have hli : (code.length : Int) ≤ 40 := by omega
  have HR : Hid (Row w g 0 code) := hrow
  have HOK : Hid (Lay.codeOk code = true) := hok
  obtain ⟨W, hW⟩ : ∃ W, W = w.alloc (.cells (chi 40 fun _ => false).toArray 45) := ⟨_, rfl⟩
  have hwW : Below w.heap.size w W := by rw [hW]; exact (Below.refl _ _).alloc (Nat.le_refl _) _
  have C0 : Hid (Cells W w.heap.size (chi 40 fun _ => false)) := by show Cells _ _ _; rw [hW]; exact Cells.new w _ rfl _ _
  have HW : Hid (W = w.alloc (.cells (chi 40 fun _ => false).toArray 45)) := hW
  clear hW hrow hok
  go_enter Try.func37, Try.ntmps37
  go_wp2_with (with_reducible refine wpList_alloc_chi rfl 45 rfl 40 zeroS ?_)
  rw [← HW.out]
  clear HW
  refine (reachedIn_at g yc code HOK.out W (HR.out.on hwW)).mono ?_
  rintro e w1 ⟨rfl, hb1⟩
  have hw1 : Below w.heap.size w w1 := below_over hwW hb1
  have D0 : Hid (Cells w1 w.heap.size (chi 40 fun _ => false)) := C0.out.on hb1
  have hz1 : w.heap.size < w1.heap.size := D0.out.lt' (by decide)
  clear C0 hb1 hwW
  have LR : Hid ((chi 40 (rchB code)).length = 40) := chi_len _ _
  have OR : Hid (∀ v ∈ chi 40 (rchB code), v.oneCell' = true) := chi_one _ _
  have HCR : Hid (chi 40 (rchB code) = chi 40 fun j => rchB code j && !(decide (j < 0) && nxtB code j)) := chi_congr (fun j _ => by simp)
  generalize hcr : chi 40 (rchB code) = cr at *
  clear hcr
  obtain ⟨X, hX⟩ : ∃ X, X = w1.alloc (.cells (chi 40 fun _ => false).toArray 45) := ⟨_, rfl⟩
  have hbX : Below w1.heap.size w1 X := by rw [hX]; exact (Below.refl _ _).alloc (Nat.le_refl _) _
  have K4 : Hid (Cells X w1.heap.size (chi 40 fun _ => false)) := by show Cells _ _ _; rw [hX]; exact Cells.new w1 _ rfl _ _
  have HX : Hid (X = w1.alloc (.cells (chi 40 fun _ => false).toArray 45)) := hX
  have E0 : Hid (Cells (X.setCells w1.heap.size 0 cr) w.heap.size (chi 40 fun _ => false)) := (D0.out.on hbX).putFar _ (by omega)
  have E4 : Hid (Cells (X.setCells w1.heap.size 0 cr) w1.heap.size cr) := K4.out.put (by rw [chi_len]; exact LR.out)
  have hbE : Below w.heap.size w (X.setCells w1.heap.size 0 cr) := below_setCells hw1.size _ _ (below_over hw1 hbX)
  have T4 : Hid ((w1.alloc (.cells (chi 40 fun _ => false).toArray 45)).there w1.heap.size 0 cr.toArray.size) := by rw [← hX]; exact K4.out.there (by rw [chi_len]; simpa using LR.out)
  clear hX K4 D0 hbX
  go_wp2_with (first
    | (with_reducible refine wpList_alloc_chi rfl 45 rfl 40 zeroS ?_)
    | (with_reducible refine wpList_store_mid rfl 45 (.tmp 3) (.tmp 7) rfl w1.heap.size 0 cr.toArray (by simp [Act.eval, Act.put]) (by simp [Act.eval, Act.put]) T4.out (by rw [infoS]; simpa using LR.out.symm) (all_oneCell_toArray OR.out) ?_))
  rw [← HX.out]
  clear HX T4 OR
  generalize X.setCells w1.heap.size 0 cr = Y at *
  have hnb : w.heap.size ≠ w1.heap.size := by omega
  have hnb2 : w1.heap.size ≠ w.heap.size := by omega
  have hwb : w.heap.size ≤ w1.heap.size := by omega
  clear hw1 hz1
  generalize w1.heap.size = b4 at *
  go_loopw [10] (fun i wr => ∃ (k : Nat) (P : Nat → Bool), k ≤ code.length ∧ i = .int .i64 k ∧ Hid (∀ j, P j = (rchB code j && !(decide (j < k) && nxtB code j))) ∧ Hid (Cells wr w.heap.size (chi 40 fun _ => false)) ∧ Hid (Cells wr b4 (chi 40 P)) ∧ Below w.heap.size w wr) (fun i _ => code.length - (intOf i).toNat)
  case atStart => exact ⟨0, _, Nat.zero_le _, rfl, fun j => rfl, E0.out, by show Cells _ _ _; rw [← HCR.out]; exact E4.out, hbE⟩
  case round =>
    clear E0 E4 hbE HCR
    obtain ⟨k, P, hk, rfl, hP, hc0, hc4, hb⟩ := hrel
    by_cases hlt : k < code.length
    · have hki : (k : Int) < (code.length : Int) := by omega
      have hk40 : (k : Int) < 40 := by omega
      obtain ⟨d0, d1, d2⟩ := (HR.out.on hb) k _ (ins_is hlt)
      have HNX : Hid (nxtB code k = (decide ((insF code k).1 = 11) && decide ((insF code k).2.1 = (k : Int) + 1))) := rfl
      generalize insF code k = ins at *
      obtain ⟨op, A, b⟩ := ins
      dsimp only at d0 d1 d2 HNX
      simp only [Nat.zero_add] at d0 d1 d2
      obtain ⟨X0, hX0⟩ : ∃ X0, X0 = wr.alloc (.cells #[.int .i64 op, .int .i64 A, .int .i64 b] 38) := ⟨_, rfl⟩
      have hb0 : Below wr.heap.size wr X0 := by rw [hX0]; exact (Below.refl _ _).alloc (Nat.le_refl _) _
      have BX0 : Cells X0 wr.heap.size [.int .i64 op, .int .i64 A, .int .i64 b] := by rw [hX0]; exact Cells.new wr _ rfl _ _
      have G0 : Hid (Cells X0 w.heap.size (chi 40 fun _ => false)) := hc0.out.on hb0
      have G4 : Hid (Cells X0 b4 (chi 40 P)) := hc4.out.on hb0
      have hw3 : Below w.heap.size w X0 := below_over hb hb0
      obtain ⟨a0, _⟩ := BX0.g0
      obtain ⟨a1, _⟩ := BX0.g1
      obtain ⟨a2, _⟩ := BX0.g2
      have HNO : Hid (nxtB code k = false → ∀ j, P j = (rchB code j && !(decide (j < k + 1) && nxtB code j))) := fun hn j => by
        rw [nxt_step hP.out j]
        by_cases e : j = k
        · subst e; simp [hn]
        · simp [e]
      have HX0 : Hid (X0 = wr.alloc (.cells #[.int .i64 op, .int .i64 A, .int .i64 b] 38)) := hX0
      rw [hX0] at a0 a1 a2
      clear hX0 hc0 hc4 hb hb0 BX0
      by_cases h11 : op = 11
      · subst h11
        go_wp2_with fail
        rw [← HX0.out]
        refine (goesToNext_at 11 A b k (by omega) X0).mono ?_
        rintro e w5 ⟨rfl, hb5⟩
        have hw5 : Below w.heap.size w w5 := below_over hw3 hb5
        have I0 : Hid (Cells w5 w.heap.size (chi 40 fun _ => false)) := G0.out.on hb5
        have I4 : Hid (Cells w5 b4 (chi 40 P)) := G4.out.on hb5
        clear hb5 G0 G4 hw3 a0 a1 a2 HX0 d0 d1 d2
        by_cases hA : A = (k : Int) + 1
        · have hd : decide (A = (k : Int) + 1) = true := by simp [hA]
          have HN : Hid (nxtB code k = true) := by show _ = _; rw [HNX.out]; simp [hA]
          have HN2 : Hid (∀ j, (if j = k then false else P j) = (rchB code j && !(decide (j < k + 1) && nxtB code j))) := fun j => by
            rw [nxt_step hP.out j, HN.out]; simp
          have J4 : Hid (Cells (w5.setCell ⟨b4, k, none⟩ (.bool false)) b4 (chi 40 fun j => if j = k then false else P j)) := by
            show Cells _ _ _
            have h := I4.out.set k (.bool false)
            rw [chi_set] at h
            exact h
          have J0 : Hid (Cells (w5.setCell ⟨b4, k, none⟩ (.bool false)) w.heap.size (chi 40 fun _ => false)) := I0.out.far _ _ hnb2
          have hw6 : Below w.heap.size w (w5.setCell ⟨b4, k, none⟩ (.bool false)) := hw5.setCell hwb _
          obtain ⟨s0, z0⟩ := I4.out k _ (chi_at _ (by omega))
          clear HNX HNO hA HN I0 I4 hP hw5
          go_wp2
          go_roundw
          case rel => exact ⟨k + 1, _, by omega, by go_num, HN2.out, J0.out, J4.out, hw6⟩
          case measure => simp [intOf]; omega
        · have hd : decide (A = (k : Int) + 1) = false := by simp [hA]
          have HN2 : Hid (∀ j, P j = (rchB code j && !(decide (j < k + 1) && nxtB code j))) := HNO.out (by rw [HNX.out]; simp [hA])
          clear HNX HNO hA hP
          go_wp2
          go_roundw
          case rel => exact ⟨k + 1, P, by omega, by go_num, HN2.out, I0.out, I4.out, hw5⟩
          case measure => simp [intOf]; omega
      · have h11b : (op == 11) = false := by simp [h11]
        have HN2 : Hid (∀ j, P j = (rchB code j && !(decide (j < k + 1) && nxtB code j))) := HNO.out (by rw [HNX.out]; simp [h11])
        clear HNX HNO h11 hP
        go_wp2
        rw [← HX0.out]
        go_roundw
        case rel => exact ⟨k + 1, P, by omega, by go_num, HN2.out, G0.out, G4.out, hw3⟩
        case measure => simp [intOf]; omega
    · obtain rfl : k = code.length := by omega
      have HC1 : Hid (Cells wr b4 (chi 40 (stB code))) := by
        show Cells _ _ _
        rw [chi_congr (Q := P) (fun j _ => by
          rw [hP.out j]
          cases hr : rchB code j
          · simp [stB, hr]
          · have := (rchB_iff.1 hr).lt hl0
            simp [stB, hr, this])]
        exact hc4.out
      clear hc4 hP
      have HCL : Hid ((chi 40 (stB code)).length = 40) := chi_len _ _
      have HCO : Hid (∀ v ∈ chi 40 (stB code), v.oneCell' = true) := chi_one _ _
      have HC2 : Hid (Cells (wr.setCells w.heap.size 0 (chi 40 (stB code))) w.heap.size (chi 40 (stB code))) := hc0.out.put (by rw [chi_len, chi_len])
      have hb2 : Below w.heap.size w (wr.setCells w.heap.size 0 (chi 40 (stB code))) := below_setCells (Nat.le_refl _) _ _ hb
      clear hb
      generalize hcs : chi 40 (stB code) = cs at *
      have HCS : Hid (chi 40 (stB code) = cs) := hcs
      clear hcs
      go_wp2_with (first
        | (with_reducible refine wpList_load_mid rfl 45 (.tmp 3) rfl b4 0 (by simp [Act.eval, Act.put]) cs _ HC1.out.range Try.underlying45 rfl (by rw [infoS, HCL.out]) ?_)
        | (with_reducible refine wpList_store_mid rfl 45 (.tmp 2) (.tmp 26) rfl w.heap.size 0 cs.toArray (by simp [Act.eval, Act.put]) (by simp [Act.eval, Act.put]) (hc0.out.there (by rw [chi_len]; simpa using HCL.out)) (by rw [infoS]; simpa using HCL.out.symm) (all_oneCell_toArray HCO.out) ?_))
      (try simp only [Exit.inBlock, Exit.then])
      refine bodyPost_ret (ret_cell rfl rfl HC2.out.range Try.underlying45 rfl (by rw [infoS, HCL.out])) rfl ?_
      exact ⟨by rw [HCS.out], hb2⟩
set_option maxRecDepth 100000 in
set_option maxHeartbeats 1000000 in
theorem implStays (g cap : Nat) (l : List Tx.Ins) (hl : l.length ≤ 1048576) (w : World) (hr : Row w g 0 l) :
    Calls Try.prog 18 #[.slice (some ⟨g, 0, none⟩) l.length cap] w fun e w' => ∃ x, e = .returned x ∧ GInt w.heap.size w' x (staA l) ∧ Below w.heap.size w w' := by
  have HR : Hid (Row w g 0 l) := hr
  clear hr
  go_enter Try.func18, Try.ntmps18
  go_wp2_with fail
  refine (implCodeOk g cap l hl w HR.out).mono ?_
  rintro e w1 ⟨rfl, hb1⟩
  cases hok : Lay.codeOk l
  · have HE : Hid (staA l = []) := by show _ = _; simp [staA, hok]
    clear hok
    go_wp2
    go_ret
    exact ⟨_, rfl, by rw [HE.out]; exact ((grow_start w1).base' hb1.size).gint, hb1.alloc hb1.size _⟩
  · have HE : Hid (staA l = risL (stB l) 40) := by show _ = _; simp [staA, hok]
    go_wp2_with fail
    refine (staysIn_at g cap l hok w1 (HR.out.on hb1)).mono ?_
    rintro e w2 ⟨rfl, hb2⟩
    have hw2 : Below w.heap.size w w2 := below_over hb1 hb2
    clear hb1 hb2
    go_wp2_with fail
    refine (rising_at (stB l) w2).mono ?_
    rintro e w3 ⟨v, rfl, hg, hb3⟩
    have hw3 : Below w.heap.size w w3 := below_over hw2 hb3
    have HG : Hid (Grow w.heap.size w3 v (risL (stB l) 40)) := hg.base' hw2.size
    clear hg hb3 hok
    go_wp2
    go_ret
    exact ⟨_, rfl, by rw [HE.out]; exact HG.out.gint, hw3⟩
end Pg
end Go.Proofs.Ytlbjnlkeagmpoaa

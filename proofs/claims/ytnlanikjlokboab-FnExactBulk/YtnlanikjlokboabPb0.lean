/- Contracts of both sides' counting of steps. -/
import Derived.Test.YtnlanikjlokboabPi3
import Derived.Test.YtnlanikjlokboabPs1
namespace Go.Proofs.Ytnlanikjlokboab
namespace Pg
open Go.ChangeShapes Go.WideShapes Go.ChangeAt Go.RowKit St

def codeSum (ms : List Meth) : Nat := sumN (ms.map fun m => m.code.length)
def bulkN (p : Prg) : Nat := sumN (p.map fun c => codeSum c.meths)
def bulkF (p : Prg) : Int := if okP p then bulkN p else -1
theorem sumN_mono {α : Type} {f g : α → Nat} (l : List α) (h : ∀ x ∈ l, f x ≤ g x) : sumN (l.map f) ≤ sumN (l.map g) := by
  induction l with
  | nil => simp [sumN]
  | cons x l ih =>
    have h1 := h x (by simp)
    have h2 := ih (fun y hy => h y (by simp [hy]))
    simp only [sumN, List.map_cons, List.foldr_cons] at h2 ⊢
    omega
theorem codeSum_le (ms : List Meth) : codeSum ms ≤ szMs ms := by
  have := sumN_mono (f := fun m => m.code.length) (g := szM) ms (fun m _ => by unfold szM; omega)
  unfold codeSum szMs; omega
theorem bulkN_le (p : Prg) : bulkN p ≤ szP p := by
  have := sumN_mono (f := fun c => codeSum c.meths) (g := szC) p (fun c _ => by have := codeSum_le c.meths; unfold szC; omega)
  unfold bulkN szP; omega
theorem bulk_step {p : Prg} {i : Nat} (hi : i < p.length) : bulkN (p.take (i + 1)) = bulkN (p.take i) + codeSum p[i].meths := sumN_take_succ _ p i hi
theorem bulk_take (p : Prg) (i : Nat) : bulkN (p.take i) ≤ bulkN p := sumN_take_le _ p i
theorem code_step {ms : List Meth} {k : Nat} (hk : k < ms.length) : codeSum (ms.take (k + 1)) = codeSum (ms.take k) + ms[k].code.length := sumN_take_succ _ ms k hk
theorem code_take (ms : List Meth) (k : Nat) : codeSum (ms.take k) ≤ codeSum ms := sumN_take_le _ ms k

set_option maxRecDepth 100000 in
set_option maxHeartbeats 2000000 in
theorem implBulk (B : Nat) (p : Prg) (a : Option Addr) (cap : Nat) (hsz : szP p ≤ 1048576) (w : World) (hp : SK front B w (.slice a p.length cap) p) :
    Calls Try.prog 15 #[.agg #[.slice a p.length cap]] w fun e w' => e = .returned (.int .i64 (bulkF p)) ∧ Below w.heap.size w w' := by
  have hsp := SmallP.of hsz
  have HSP : Hid (SmallP p) := hsp
  have hpl := hsp.1
  have HP : Hid (SK front B w (.slice a p.length cap) p) := hp
  have hbu : bulkN p ≤ 1048576 := Nat.le_trans (bulkN_le p) hsz
  clear hp hsp hsz
  obtain ⟨W, hW⟩ : ∃ W, W = w.alloc (.cells #[.slice a p.length cap] 30) := ⟨_, rfl⟩
  have hwW : Below w.heap.size w W := by rw [hW]; exact (Below.refl _ _).alloc (Nat.le_refl _) _
  have P0 : Hid (Cells W w.heap.size [.slice a p.length cap]) := by rw [hW]; exact Cells.new w _ rfl _ _
  go_enter Try.func15, Try.ntmps15
  go_wp2_with fail
  rw [← hW]
  clear hW
  refine (implProgramOk B p a cap HSP.out _ (SK.on HP.out (Keep.of hwW))).mono ?_
  rintro e w1 ⟨rfl, hb1⟩
  have hw1 : Below w.heap.size w w1 := below_over hwW hb1
  obtain ⟨q0, _⟩ := (P0.out.on hb1).g0
  have hW1 : Below W.heap.size W w1 := hb1
  clear hb1
  cases hok : okP p
  · have HN : Hid (bulkF p = -1) := by show _ = _; simp [bulkF, hok]
    go_wp2
    go_ret
    exact ⟨retI HN.out.symm, hw1⟩
  · have HN : Hid (bulkF p = (bulkN p : Int)) := by show _ = _; simp [bulkF, hok]
    clear hok
    go_wp2
    clear q0
    go_loopw [3, 14] (fun s v wr => ∃ (i acc : Nat), i ≤ p.length ∧ v = .int .i64 i ∧ s = .int .i64 acc ∧ Hid (acc = bulkN (p.take i)) ∧ Below W.heap.size W wr) (fun _ v _ => p.length - (intOf v).toNat)
    case atStart => exact ⟨0, 0, Nat.zero_le _, rfl, rfl, by show _ = _; simp [bulkN, sumN], hW1⟩
    case round =>
      clear hW1 hw1
      obtain ⟨i, acc, hi, rfl, rfl, hacc, hb⟩ := hrel
      have hwr : Below w.heap.size w wr := below_over hwW hb
      by_cases hlt : i < p.length
      · have hii : (i : Int) < (p.length : Int) := by omega
        have HST : Hid (bulkN (p.take (i + 1)) = bulkN (p.take i) + codeSum p[i].meths) := bulk_step hlt
        have HTK : Hid (bulkN (p.take (i + 1)) ≤ bulkN p) := bulk_take p (i + 1)
        obtain ⟨b, o, rfl, _, vf, vm, d0, d1, d2, hcv⟩ := (SK.on HP.out (Keep.of hwr)).get hlt
        obtain ⟨z1, t1, rfl⟩ := hcv.1.form
        obtain ⟨z2, t2, rfl⟩ := hcv.2.form
        have HM : Hid (SM front B wr (.slice z2 p[i].meths.length t2) p[i].meths) := hcv.2
        have hsm := (HSP.out.2 _ (List.getElem_mem hlt)).2.1
        generalize p[i] = c at *
        clear hcv
        have HBB : Hid (Below W.heap.size W (wr.alloc (.cells #[.int .i64 c.super, .slice z1 c.fields.length t1, .slice z2 c.meths.length t2] 47))) := hb.alloc hb.size _
        have HMA : Hid (SM front B (wr.alloc (.cells #[.int .i64 c.super, .slice z1 c.fields.length t1, .slice z2 c.meths.length t2] 47)) (.slice z2 c.meths.length t2) c.meths) := SM.on HM.out (Keep.of ((Below.refl _ _).alloc (Nat.le_refl _) _))
        clear HM
        go_wp2
        generalize wr.alloc (.cells #[.int .i64 c.super, .slice z1 c.fields.length t1, .slice z2 c.meths.length t2] 47) = WC at *
        clear d0 d1 d2 hb hwr
        go_loopw [3, 21] (fun s v wm => ∃ (k ac : Nat), k ≤ c.meths.length ∧ v = .int .i64 k ∧ s = .int .i64 ac ∧ Hid (ac = bulkN (p.take i) + codeSum (c.meths.take k)) ∧ Below WC.heap.size WC wm) (fun _ v _ => c.meths.length - (intOf v).toNat)
        case atStart => exact ⟨0, acc, Nat.zero_le _, rfl, rfl, by show _ = _; rw [hacc.out]; simp [codeSum, sumN], Below.refl _ _⟩
        case round =>
          clear hacc
          obtain ⟨k, ac, hk, rfl, rfl, hac, hbm⟩ := hrel
          by_cases hkl : k < c.meths.length
          · have hki : (k : Int) < (c.meths.length : Int) := by omega
            have HCS : Hid (codeSum (c.meths.take (k + 1)) = codeSum (c.meths.take k) + c.meths[k].code.length) := code_step hkl
            have hcl : ac + c.meths[k].code.length ≤ 1048576 := by
              have h1 := HCS.out
              have h2 := code_take c.meths (k + 1)
              have h3 := hac.out
              have h4 := HST.out
              have h5 := HTK.out
              omega
            obtain ⟨bm, om, rfl, _, va, vc, m0, m1, m2, m3, hmv⟩ := (SM.on HMA.out (Keep.of hbm)).get hkl
            obtain ⟨x1, y1, rfl⟩ := hmv.1.form
            obtain ⟨x2, y2, rfl⟩ := front.form hmv.2
            generalize c.meths[k] = m at *
            clear hmv
            have HBM : Hid (Below WC.heap.size WC (wr.alloc (.cells #[.int .i64 m.name, .slice x1 m.args.length y1, .int .i64 m.gives, .slice x2 m.code.length y2] 50))) := hbm.alloc hbm.size _
            clear hbm
            go_wp2
            go_roundw
            case rel => exact ⟨k + 1, ac + m.code.length, by omega, by go_num, by go_num, by show _ = _; rw [hac.out, HCS.out]; omega, HBM.out⟩
            case measure => simp [intOf]; omega
          · have HA2 : Hid (ac = bulkN (p.take (i + 1))) := by
              show _ = _
              have h := hac.out
              rw [show c.meths.take k = c.meths from List.take_of_length_le (by omega)] at h
              rw [HST.out]; exact h
            have HB2 : Below W.heap.size W wr := below_over HBB.out hbm
            go_wp2
            go_roundw
            case rel => exact ⟨i + 1, ac, by omega, by go_num, rfl, HA2.out, HB2⟩
            case measure => simp [intOf]; omega
      · have HX : Hid (bulkF p = (acc : Int)) := by
          show _ = _
          have h := hacc.out
          rw [List.take_of_length_le (by omega)] at h
          rw [HN.out, h]
        go_wp2
        go_ret
        exact ⟨retI HX.out.symm, hwr⟩

set_option maxRecDepth 100000 in
set_option maxHeartbeats 2000000 in
theorem l4Bulk (B : Nat) (p : Prg) (a : Option Addr) (cap : Nat) (hsz : szP p ≤ 1048576) (w : World) (hp : SK front B w (.slice a p.length cap) p) :
    Calls Try.prog 26 #[.agg #[.slice a p.length cap]] w fun e w' => e = .returned (.int .i64 (bulkN p)) ∧ Below w.heap.size w w' := by
  have hsp := SmallP.of hsz
  have HSP : Hid (SmallP p) := hsp
  have hpl := hsp.1
  have HP : Hid (SK front B w (.slice a p.length cap) p) := hp
  have hbu : bulkN p ≤ 1048576 := Nat.le_trans (bulkN_le p) hsz
  clear hp hsp hsz
  obtain ⟨W, hW⟩ : ∃ W, W = w.alloc (.cells #[.slice a p.length cap] 30) := ⟨_, rfl⟩
  have hwW : Below w.heap.size w W := by rw [hW]; exact (Below.refl _ _).alloc (Nat.le_refl _) _
  have P0 : Hid (Cells W w.heap.size [.slice a p.length cap]) := by rw [hW]; exact Cells.new w _ rfl _ _
  go_enter Try.func26, Try.ntmps26
  go_wp2
  rw [← hW]
  clear hW
  go_loopw [3, 4] (fun s v wr => ∃ (i acc : Nat), i ≤ p.length ∧ v = .int .i64 i ∧ s = .int .i64 acc ∧ Hid (acc = bulkN (p.take i)) ∧ Below W.heap.size W wr) (fun _ v _ => p.length - (intOf v).toNat)
  case atStart => exact ⟨0, 0, Nat.zero_le _, rfl, rfl, by show _ = _; simp [bulkN, sumN], Below.refl _ _⟩
  case round =>
    obtain ⟨i, acc, hi, rfl, rfl, hacc, hb⟩ := hrel
    have hwr : Below w.heap.size w wr := below_over hwW hb
    obtain ⟨q0, _⟩ := (P0.out.on hb).g0
    by_cases hlt : i < p.length
    · have hii : (i : Int) < (p.length : Int) := by omega
      have HST : Hid (bulkN (p.take (i + 1)) = bulkN (p.take i) + codeSum p[i].meths) := bulk_step hlt
      have HTK : Hid (bulkN (p.take (i + 1)) ≤ bulkN p) := bulk_take p (i + 1)
      obtain ⟨b, o, rfl, _, vf, vm, e0, e1, e2, hcv⟩ := HP.out.get hlt
      obtain ⟨z2, t2, rfl⟩ := hcv.2.form
      have HM : Hid (SM front B w (.slice z2 p[i].meths.length t2) p[i].meths) := hcv.2
      have hsm := (HSP.out.2 _ (List.getElem_mem hlt)).2.1
      have lb : b < w.heap.size := cell_lt e0
      have E2 : Hid (w.cell? ⟨b, o + i * 3 + 2, none⟩ = some (.slice z2 p[i].meths.length t2)) := e2
      generalize p[i] = c at *
      clear hcv e0 e1 e2
      go_wp2
      clear q0
      go_loopw [3, 5] (fun s v wm => ∃ (k ac : Nat), k ≤ c.meths.length ∧ v = .int .i64 k ∧ s = .int .i64 ac ∧ Hid (ac = bulkN (p.take i) + codeSum (c.meths.take k)) ∧ Below W.heap.size W wm) (fun _ v _ => c.meths.length - (intOf v).toNat)
      case atStart => exact ⟨0, acc, Nat.zero_le _, rfl, rfl, by show _ = _; rw [hacc.out]; simp [codeSum, sumN], hb⟩
      case round =>
        clear hacc hb hwr
        obtain ⟨k, ac, hk, rfl, rfl, hac, hbm⟩ := hrel
        have hwm : Below w.heap.size w wr := below_over hwW hbm
        obtain ⟨q0, _⟩ := (P0.out.on hbm).g0
        have q2 := (hwm.cell lb).trans E2.out
        by_cases hkl : k < c.meths.length
        · have hki : (k : Int) < (c.meths.length : Int) := by omega
          have HCS : Hid (codeSum (c.meths.take (k + 1)) = codeSum (c.meths.take k) + c.meths[k].code.length) := code_step hkl
          have hcl : ac + c.meths[k].code.length ≤ 1048576 := by
            have h1 := HCS.out
            have h2 := code_take c.meths (k + 1)
            have h3 := hac.out
            have h4 := HST.out
            have h5 := HTK.out
            omega
          obtain ⟨bm, om, rfl, _, va, vc, m0, m1, m2, m3, hmv⟩ := (SM.on HM.out (Keep.of hwm)).get hkl
          obtain ⟨x2, y2, rfl⟩ := front.form hmv.2
          generalize c.meths[k] = m at *
          clear hmv
          go_wp2
          go_roundw
          case rel => exact ⟨k + 1, ac + m.code.length, by omega, by go_num, by go_num, by show _ = _; rw [hac.out, HCS.out]; omega, hbm⟩
          case measure => simp [intOf]; omega
        · have HA2 : Hid (ac = bulkN (p.take (i + 1))) := by
            show _ = _
            have h := hac.out
            rw [show c.meths.take k = c.meths from List.take_of_length_le (by omega)] at h
            rw [HST.out]; exact h
          go_wp2
          go_roundw
          case rel => exact ⟨i + 1, ac, by omega, by go_num, rfl, HA2.out, hbm⟩
          case measure => simp [intOf]; omega
    · have HX : Hid ((bulkN p : Int) = (acc : Int)) := by
        show _ = _
        have h := hacc.out
        rw [List.take_of_length_le (by omega)] at h
        rw [h]
      go_wp2
      go_ret
      exact ⟨retI HX.out.symm, hwr⟩

set_option maxHeartbeats 1000000 in
theorem specBulk (B : Nat) (p : Prg) (a : Option Addr) (cap : Nat) (hsz : szP p ≤ 1048576) (w : World) (hp : SK front B w (.slice a p.length cap) p) :
    Calls Try.prog 14 #[.agg #[.slice a p.length cap]] w fun e w' => e = .returned (.int .i64 (bulkF p)) ∧ Below w.heap.size w w' := by
  have HSP : Hid (SmallP p) := SmallP.of hsz
  have HSZ : Hid (szP p ≤ 1048576) := hsz
  have HP : Hid (SK front B w (.slice a p.length cap) p) := hp
  clear hp hsz
  obtain ⟨W, hW⟩ : ∃ W, W = w.alloc (.cells #[.slice a p.length cap] 30) := ⟨_, rfl⟩
  have hwW : Below w.heap.size w W := by rw [hW]; exact (Below.refl _ _).alloc (Nat.le_refl _) _
  have P0 : Hid (Cells W w.heap.size [.slice a p.length cap]) := by rw [hW]; exact Cells.new w _ rfl _ _
  go_enter Try.func14, Try.ntmps14
  go_wp2_with fail
  rw [← hW]
  clear hW
  refine (specProgramOk B p a cap HSP.out _ (SK.on HP.out (Keep.of hwW))).mono ?_
  rintro e w1 ⟨rfl, hb1⟩
  have hw1 : Below w.heap.size w w1 := below_over hwW hb1
  obtain ⟨q0, _⟩ := (P0.out.on hb1).g0
  clear hb1
  cases hok : okP p
  · have HN : Hid (bulkF p = -1) := by show _ = _; simp [bulkF, hok]
    go_wp2
    go_ret
    exact ⟨retI HN.out.symm, hw1⟩
  · have HN : Hid (bulkF p = (bulkN p : Int)) := by show _ = _; simp [bulkF, hok]
    clear hok
    go_wp2_with fail
    refine (l4Bulk B p a cap HSZ.out _ (SK.on HP.out (Keep.of hw1))).mono ?_
    rintro e w2 ⟨rfl, hb2⟩
    have hw2 : Below w.heap.size w w2 := below_over hw1 hb2
    clear hb2 q0
    go_wp2
    go_ret
    exact ⟨retI HN.out.symm, hw2⟩
end Pg
end Go.Proofs.Ytnlanikjlokboab

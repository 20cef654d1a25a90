/- Contracts: what is reached, on both sides. -/
import Derived.Test.YtlbjnlkeagmpoaaNx3
import Derived.Test.YtlbjnlkeagmpoaaNx4
import Derived.Deep.LoopGhost
import Derived.Deep.RegionHeld3
namespace Go.Proofs.Ytlbjnlkeagmpoaa
namespace Pg
open Go.ChangeShapes Go.WideShapes Go.ChangeAt Go.RowKit St

inductive Rch (code : List Tx.Ins) : Nat → Prop
  | zero : Rch code 0
  | step {a j : Nat} : Rch code a → nxB code a j = true → Rch code j
open Classical in
noncomputable def rchB (code : List Tx.Ins) (j : Nat) : Bool := decide (Rch code j)
theorem rchB_iff {code : List Tx.Ins} {j : Nat} : rchB code j = true ↔ Rch code j := by simp [rchB]
theorem nxB_lt {code : List Tx.Ins} {a j : Nat} (h : nxB code a j = true) : j < code.length := by
  unfold nxB at h
  simp only [Bool.and_eq_true, decide_eq_true_eq] at h
  exact h.2
theorem Rch.lt {code : List Tx.Ins} (h0 : 0 < code.length) {j : Nat} (h : Rch code j) : j < code.length := by
  cases h with
  | zero => exact h0
  | step _ h => exact nxB_lt h
theorem Rch.least {code : List Tx.Ins} {S : Nat → Prop} (h0 : S 0) (hs : ∀ a, S a → ∀ j, nxB code a j = true → S j) {j : Nat} (h : Rch code j) : S j := by
  induction h with
  | zero => exact h0
  | step _ h ih => exact hs _ ih _ h

def cntS (n : Nat) (P : Nat → Bool) : Nat := (List.range n).countP P
theorem cnt_le (n : Nat) (P : Nat → Bool) : cntS n P ≤ n := by
  have := List.countP_le_length (p := P) (l := List.range n)
  simpa [cntS] using this
theorem cnt_succ (n : Nat) (P : Nat → Bool) : cntS (n + 1) P = cntS n P + (if P n then 1 else 0) := by
  unfold cntS
  rw [List.range_succ, List.countP_append]
  cases h : P n <;> simp [h]
theorem cnt_mono {P Q : Nat → Bool} : ∀ {n : Nat}, (∀ j, j < n → P j = true → Q j = true) → cntS n P ≤ cntS n Q
  | 0, _ => by simp [cntS]
  | n + 1, h => by
    have ih := cnt_mono (n := n) fun j hj => h j (by omega)
    rw [cnt_succ, cnt_succ]
    cases hp : P n
    · simp; omega
    · rw [h n (by omega) hp]; simp; omega
theorem cnt_lt {P Q : Nat → Bool} : ∀ {n : Nat}, (∀ j, j < n → P j = true → Q j = true) → alike n Q P = false → cntS n P < cntS n Q
  | 0, _, h => by simp [alike] at h
  | n + 1, h, hne => by
    rw [cnt_succ, cnt_succ]
    cases ha : alike n Q P
    · have ih := cnt_lt (n := n) (fun j hj => h j (by omega)) ha
      cases hp : P n
      · simp; omega
      · rw [h n (by omega) hp]; simp; omega
    · have hm := cnt_mono (n := n) fun j hj => h j (by omega)
      have hdiff : Q n ≠ P n := by
        intro e
        have : alike (n + 1) Q P = true := alike_iff.2 fun j hj => by
          rcases Nat.lt_or_ge j n with h1 | h1
          · exact alike_iff.1 ha j h1
          · rw [show j = n by omega]; exact e
        rw [this] at hne; simp at hne
      cases hp : P n
      · cases hq : Q n
        · rw [hp, hq] at hdiff; simp at hdiff
        · simp; omega
      · rw [h n (by omega) hp, hp] at hdiff; simp at hdiff
/-- Where the program stands in a round: P what was there when it began, Q by now. -/
structure Swp9 (code : List Tx.Ins) (P Q : Nat → Bool) (k : Nat) : Prop where
  up : ∀ j, P j = true → Q j = true
  sub : ∀ j, Q j = true → Rch code j
  zero : P 0 = true
  done : ∀ a, a < k → P a = true → ∀ j, nxB code a j = true → Q j = true
theorem Swp9.yes {code : List Tx.Ins} {P Q : Nat → Bool} {k : Nat} (h : Swp9 code P Q k) (hk : Q k = true) : Swp9 code P (fun j => Q j || nxB code k j) (k + 1) :=
  ⟨fun j hj => by rw [h.up j hj, Bool.true_or], fun j hj => by
    rw [Bool.or_eq_true] at hj
    rcases hj with hj | hj
    · exact h.sub j hj
    · exact .step (h.sub k hk) hj, h.zero, fun a ha hp j hj => by
    rcases Nat.lt_or_ge a k with h1 | h1
    · rw [h.done a h1 hp j hj, Bool.true_or]
    · rw [show a = k by omega] at hj
      rw [hj, Bool.or_true]⟩
theorem Swp9.no {code : List Tx.Ins} {P Q : Nat → Bool} {k : Nat} (h : Swp9 code P Q k) (hk : Q k = false) : Swp9 code P Q (k + 1) :=
  ⟨h.up, h.sub, h.zero, fun a ha hp j hj => by
    rcases Nat.lt_or_ge a k with h1 | h1
    · exact h.done a h1 hp j hj
    · rw [show a = k by omega] at hp
      rw [h.up k hp] at hk; simp at hk⟩
theorem Swp9.ends {code : List Tx.Ins} (hok : Lay.codeOk code = true) {P Q : Nat → Bool} (h : Swp9 code P Q code.length) (ha : alike 40 Q P = true) : chi 40 Q = chi 40 (rchB code) := by
  have hl := Lay.ok_len hok
  refine chi_congr fun j hj => ?_
  rw [Bool.eq_iff_iff, rchB_iff]
  refine ⟨h.sub j, fun hr => ?_⟩
  have key : Q j = true ∧ j < code.length := by
    refine Rch.least (S := fun j => Q j = true ∧ j < code.length) ⟨h.up 0 h.zero, hl.1⟩ ?_ hr
    rintro a ⟨h1, h2⟩ j hj
    refine ⟨h.done a h2 ?_ j hj, nxB_lt hj⟩
    rw [← alike_iff.1 ha a (by omega)]; exact h1
  exact key.1

theorem stepLoad {w : World} {ops : Array Oper} {o : Oper} {a : Act} {K : Act → World → Prop} {Q : Exit → Act → World → Prop} {E : Prop} (hgd : o.guard = none) (ty : TypeId) (x : Operand) (ho : o.op = .load ty x)
    (b of : Nat) (hx : a.eval x = .pointer (some ⟨b, of, none⟩)) (cs : List Value) (d : TypeDesc) (hc : w.rangeAt b of cs)
    (hu : Try.prog.underlying ty = some d) (hd : d.isRow = true) (hi : (Try.prog.info? ty).map (·.size) = some cs.length)
    (h : K (a.put o.dst (.agg cs.toArray)) w) : if Region.wanted o (yielded ops a.tmps) = true then Oper.wp Try.prog o a w K Q else E := by
  have hw : Region.wanted o (yielded ops a.tmps) = true := by simp [Region.wanted, hgd]
  rw [if_pos hw]
  exact wp_load_mid ty x ho b of hx cs d hc hu hd hi h
theorem stepStore {w : World} {ops : Array Oper} {o : Oper} {a : Act} {K : Act → World → Prop} {Q : Exit → Act → World → Prop} {E : Prop} (hgd : o.guard = none) (ty : TypeId) (x y : Operand) (ho : o.op = .store ty x y)
    (b of : Nat) (cells : Array Value) (hx : a.eval x = .pointer (some ⟨b, of, none⟩)) (hy : a.eval y = .agg cells)
    (ht : w.there b of cells.size) (hi : (Try.prog.info? ty).map (·.size) = some cells.size) (h1 : cells.all (·.oneCell') = true)
    (h : K (a.put o.dst undef) (w.setCells b of cells.toList)) : if Region.wanted o (yielded ops a.tmps) = true then Oper.wp Try.prog o a w K Q else E := by
  have hw : Region.wanted o (yielded ops a.tmps) = true := by simp [Region.wanted, hgd]
  rw [if_pos hw]
  exact wp_store_mid ty x y ho b of cells hx hy ht hi h1 h

set_option maxRecDepth 100000 in
set_option maxHeartbeats 4000000 in
theorem reachedIn_at (g yc : Nat) (code : List Tx.Ins) (hok : Lay.codeOk code = true) (w : World) (hrow : Row w g 0 code) :
    Calls Try.prog 50 #[.slice (some ⟨g, 0, none⟩) code.length yc] w fun e w' => e = .returned (.agg (chi 40 (rchB code)).toArray) ∧ Below w.heap.size w w' := by
  have hl40 := (Lay.ok_len hok).2
  have lg : g < w.heap.size := cell_lt (hrow 0 _ (ins_is (Lay.ok_len hok).1)).1
  have HR : Hid (Row w g 0 code) := hrow
  have HOK : Hid (Lay.codeOk code = true) := hok
  obtain ⟨W, hW⟩ : ∃ W, W = (w.alloc (.cells (chi 40 fun _ => false).toArray 45)).alloc (.cells (chi 40 fun _ => false).toArray 45) := ⟨_, rfl⟩
  have hwW : Below w.heap.size w W := by rw [hW]; exact ((Below.refl _ _).alloc (Nat.le_refl _) _).alloc (by simp) _
  have C0 : Hid (Cells W w.heap.size (chi 40 fun _ => false)) := by show Cells _ _ _; rw [hW]; exact (Cells.new w _ rfl _ _).alloc _
  have C1 : Hid (Cells W (w.heap.size + 1) (chi 40 fun _ => false)) := by show Cells _ _ _; rw [hW]; exact Cells.new (w.alloc _) _ (by simp) _ _
  have C1L : Hid (Cells ((w.alloc (.cells (chi 40 fun _ => false).toArray 45)).alloc (.cells (chi 40 fun _ => false).toArray 45)) (w.heap.size + 1) (chi 40 fun _ => false)) := Cells.new (w.alloc _) _ (by simp) _ _
  have HW : Hid (W = (w.alloc (.cells (chi 40 fun _ => false).toArray 45)).alloc (.cells (chi 40 fun _ => false).toArray 45)) := hW
  clear hW hrow hok
  have HCO : Hid (∀ v ∈ (chi 40 fun j => decide (j = 0)), v.oneCell' = true) := chi_one _ _
  go_enter Try.func50, Try.ntmps50
  go_wp2_with (first
    | (with_reducible refine wpList_alloc_chi rfl 45 rfl 40 zeroS ?_)
    | (with_reducible refine wpList_build_chi rfl 45 rfl 40 (by decide) Try.underlying45 zeroS ?_)
    | (with_reducible refine wpList_store_mid rfl 45 (.tmp 3) (.tmp 6) rfl (w.heap.size + 1) 0 (chi 40 fun j => decide (j = 0)).toArray (by simp [Act.eval, Act.put]) (by simp [Act.eval, Act.put]) (C1L.out.there (by simp [chi_len])) (by rw [infoS]; simp [chi_len]) (all_oneCell_toArray HCO.out) ?_))
  rw [← HW.out]
  clear HW C1L
  have D0 : Hid (Cells (W.setCells (w.heap.size + 1) 0 (chi 40 fun j => decide (j = 0))) w.heap.size (chi 40 fun _ => false)) := C0.out.putFar _ (by omega)
  have D1 : Hid (Cells (W.setCells (w.heap.size + 1) 0 (chi 40 fun j => decide (j = 0))) (w.heap.size + 1) (chi 40 fun j => decide (j = 0))) := C1.out.put (by rw [chi_len, chi_len])
  have hbD : Below w.heap.size w (W.setCells (w.heap.size + 1) 0 (chi 40 fun j => decide (j = 0))) := below_setCells (by omega) _ _ hwW
  clear C0 C1 hwW HCO
  generalize W.setCells (w.heap.size + 1) 0 (chi 40 fun j => decide (j = 0)) = X at *
  go_loopg [] 40 (fun n wr => ∃ P : Nat → Bool, Hid (40 ≤ cntS 40 P + n) ∧ Hid (P 0 = true ∧ ∀ j, P j = true → Rch code j) ∧ Hid (Cells wr w.heap.size (chi 40 fun _ => false)) ∧ Hid (Cells wr (w.heap.size + 1) (chi 40 P)) ∧ Below w.heap.size w wr)
  case atStart => exact ⟨fun j => decide (j = 0), Nat.le_add_left _ _, ⟨rfl, fun j hj => by rw [of_decide_eq_true hj]; exact .zero⟩, D0.out, D1.out, hbD⟩
  case round =>
    clear D0 D1 hbD
    obtain ⟨P, hn, hP, hc0, hc1, hb⟩ := hrel
    have hz : w.heap.size + 1 < wr.heap.size := hc1.out.lt' (by decide)
    obtain ⟨bb, hbb⟩ : ∃ bb, bb = wr.heap.size := ⟨_, rfl⟩
    have CB : Hid (Cells (wr.alloc (.cells (chi 40 fun _ => false).toArray 45)) wr.heap.size (chi 40 fun _ => false)) := Cells.new wr _ rfl _ _
    have B0 : Hid (Cells ((wr.alloc (.cells (chi 40 fun _ => false).toArray 45)).setCells wr.heap.size 0 (chi 40 P)) w.heap.size (chi 40 fun _ => false)) := (hc0.out.alloc _).putFar _ (by omega)
    have B1 : Hid (Cells ((wr.alloc (.cells (chi 40 fun _ => false).toArray 45)).setCells wr.heap.size 0 (chi 40 P)) (w.heap.size + 1) (chi 40 P)) := (hc1.out.alloc _).putFar _ (by omega)
    have BB : Hid (Cells ((wr.alloc (.cells (chi 40 fun _ => false).toArray 45)).setCells wr.heap.size 0 (chi 40 P)) wr.heap.size (chi 40 P)) := CB.out.put (by rw [chi_len, chi_len])
    have hbB : Below w.heap.size w ((wr.alloc (.cells (chi 40 fun _ => false).toArray 45)).setCells wr.heap.size 0 (chi 40 P)) := below_setCells (by omega) _ _ (hb.alloc hb.size _)
    have HPC : Hid (∀ v ∈ chi 40 P, v.oneCell' = true) := chi_one _ _
    go_wp2_with (first
      | (with_reducible refine wpList_alloc_chi rfl 45 rfl 40 zeroS ?_)
      | (with_reducible refine wpList_load_mid rfl 45 (.tmp 3) rfl (w.heap.size + 1) 0 (by simp [Act.eval]) (chi 40 P) _ hc1.out.range Try.underlying45 rfl (by rw [infoS, chi_len]) ?_)
      | (with_reducible refine wpList_store_mid rfl 45 (.tmp 4) (.tmp 7) rfl wr.heap.size 0 (chi 40 P).toArray (by simp [Act.eval, Act.put]) (by simp [Act.eval, Act.put]) (CB.out.there (by simp [chi_len])) (by rw [infoS]; simp [chi_len]) (all_oneCell_toArray HPC.out) ?_))
    generalize (wr.alloc (.cells (chi 40 fun _ => false).toArray 45)).setCells wr.heap.size 0 (chi 40 P) = Y at *
    rw [← hbb] at BB ⊢
    have hzb : w.heap.size + 1 < bb := by rw [hbb]; exact hz
    clear hbb hc0 hc1 hb CB HPC hz
    have HS0 : Hid (Swp9 code P P 0) := ⟨fun _ h => h, hP.out.2, hP.out.1, fun a ha => by omega⟩
    go_loopw [10] (fun i wr => ∃ (k : Nat) (Q : Nat → Bool), k ≤ code.length ∧ i = .int .i64 k ∧ Hid (Cells wr w.heap.size (chi 40 fun _ => false)) ∧ Hid (Cells wr (w.heap.size + 1) (chi 40 Q)) ∧ Hid (Cells wr bb (chi 40 P)) ∧ Hid (Swp9 code P Q k) ∧ Below w.heap.size w wr) (fun i _ => code.length - (intOf i).toNat)
    case atStart => exact ⟨0, P, Nat.zero_le _, rfl, B0.out, B1.out, BB.out, HS0.out, hbB⟩
    case round =>
      clear B0 B1 BB HS0 hbB
      obtain ⟨k, Q, hk, rfl, hc0, hc1, hcb, hsw, hb⟩ := hrel
      by_cases hlt : k < code.length
      · have hki : (k : Int) < (code.length : Int) := by omega
        have hk40 : (k : Int) < 40 := by omega
        obtain ⟨c0, _⟩ := hc1.out k _ (chi_at Q (by omega))
        cases hq : Q k
        · rw [hq] at c0
          have HSWN : Hid (Swp9 code P Q (k + 1)) := hsw.out.no hq
          clear hq hsw
          go_wp2
          go_roundw
          case rel => exact ⟨k + 1, Q, by omega, by go_num, hc0.out, hc1.out, hcb.out, HSWN.out, hb⟩
          case measure => simp [intOf]; omega
        · rw [hq] at c0
          have HSWY : Hid (Swp9 code P (fun j => Q j || nxB code k j) (k + 1)) := hsw.out.yes hq
          clear hq hsw
          go_wp2_with fail
          clear c0
          have hD0 : Below wr.heap.size wr wr.drew := (Below.refl _ _).drew
          refine wp_region_held_drew (S := fun _ => True) (by kernel_rfl) trivial (fun hHeld => ?_)
          generalize wr.drew = Q0 at hD0 hHeld ⊢
          refine wpAnyH_take (i := 1) (v := ?_) rfl (by kernel_rfl) (by kernel_rfl) (by kernel_rfl) (fun _ _ _ h => h) (Or.inl ⟨by rfl, ?_⟩) hHeld ?_
          rotate_left 1
          · intro w' hSw
            go_simp
            try with_reducible rfl
          simp only [Act.put]
          refine wpAnyH_take (i := 2) (v := ?_) rfl (by kernel_rfl) (by kernel_rfl) (by kernel_rfl) (fun _ _ _ h => h) (Or.inl ⟨by rfl, ?_⟩) hHeld ?_
          rotate_left 1
          · intro w' hSw
            go_simp
            try with_reducible rfl
          simp only [Act.put]
          refine wpAnyH_ready (rs := [0, 3]) (by kernel_rfl) (by simp) ?_
          refine AllReadyH.cons rfl (fun K hK => ?_) (AllReadyH.cons rfl (fun K hK => ?_) AllReadyH.nil)
          · refine stepLoad rfl 45 (.tmp 3) rfl (w.heap.size + 1) 0 (by simp [Act.eval]) (chi 40 Q) _ (hc1.out.on hD0).range Try.underlying45 rfl (by rw [infoS, chi_len]) ?_
            simp only [Act.put]
            refine hK.out _ _ trivial (fun hHeld => ?_)
            clear hK K
            refine wpAnyH_ready (rs := [3]) (by kernel_rfl) (by simp) ?_
            refine AllReadyH.cons rfl (fun K hK => ?_) AllReadyH.nil
            go_simp
            refine (nextsIn_at g yc code HOK.out k hlt Q0 (HR.out.on (below_over hb hD0))).mono ?_
            rintro e Q1 ⟨rfl, hq1⟩
            have hR1 : Below wr.heap.size wr Q1 := below_over hD0 hq1
            clear hq1
            dsimp only
            refine hK.out _ _ trivial (fun hHeld => ?_)
            clear hK K
            refine wpAnyH_ready (rs := [4]) (by kernel_rfl) (by simp) ?_
            refine AllReadyH.cons rfl (fun K hK => ?_) AllReadyH.nil
            go_simp
            refine (withS_at Q (nxB code k) Q1).mono ?_
            rintro e Q2 ⟨rfl, hq2⟩
            have hR2 : Below wr.heap.size wr Q2 := below_over hR1 hq2
            dsimp only
            refine hK.out _ _ trivial (fun hHeld => ?_)
            clear hK K
            have E0 : Hid (Cells Q2 w.heap.size (chi 40 fun _ => false)) := hc0.out.on hR2
            have E1 : Hid (Cells Q2 (w.heap.size + 1) (chi 40 Q)) := hc1.out.on hR2
            have EB : Hid (Cells Q2 bb (chi 40 P)) := hcb.out.on hR2
            have F0 : Hid (Cells (Q2.setCells (w.heap.size + 1) 0 (chi 40 fun j => Q j || nxB code k j)) w.heap.size (chi 40 fun _ => false)) := E0.out.putFar _ (by omega)
            have F1 : Hid (Cells (Q2.setCells (w.heap.size + 1) 0 (chi 40 fun j => Q j || nxB code k j)) (w.heap.size + 1) (chi 40 fun j => Q j || nxB code k j)) := E1.out.put (by rw [chi_len, chi_len])
            have FB : Hid (Cells (Q2.setCells (w.heap.size + 1) 0 (chi 40 fun j => Q j || nxB code k j)) bb (chi 40 P)) := EB.out.putFar _ (by omega)
            have hbF : Below w.heap.size w (Q2.setCells (w.heap.size + 1) 0 (chi 40 fun j => Q j || nxB code k j)) := below_setCells (by omega) _ _ (below_over hb hR2)
            refine wpAnyH_ready (rs := [5]) (by kernel_rfl) (by simp) ?_
            refine AllReadyH.cons rfl (fun K hK => ?_) AllReadyH.nil
            refine stepStore rfl 45 (.tmp 3) (.tmp 20) rfl (w.heap.size + 1) 0 (chi 40 fun j => Q j || nxB code k j).toArray (by simp [Act.eval]) (by simp [Act.eval]) (E1.out.there (by simp [chi_len])) (by rw [infoS]; simp [chi_len]) (all_oneCell_toArray (chi_one _ _)) ?_
            rw [List.toList_toArray]
            clear E0 E1 EB
            generalize Q2.setCells (w.heap.size + 1) 0 (chi 40 fun j => Q j || nxB code k j) = X at *
            simp only [Act.put]
            refine hK.out _ _ trivial (fun hHeld => ?_)
            clear hK K
            refine wpAnyH_done (by kernel_rfl) ?_ _
            clear hHeld hD0 hR1 hR2 hq2 hc0 hc1 hcb hb
            go_wp2
            go_roundw
            case rel => exact ⟨k + 1, _, by omega, by go_num, F0.out, F1.out, FB.out, HSWY.out, hbF⟩
            case measure => simp [intOf]; omega
          · go_simp
            refine (nextsIn_at g yc code HOK.out k hlt Q0 (HR.out.on (below_over hb hD0))).mono ?_
            rintro e Q1 ⟨rfl, hq1⟩
            have hR1 : Below wr.heap.size wr Q1 := below_over hD0 hq1
            clear hq1
            dsimp only
            refine hK.out _ _ trivial (fun hHeld => ?_)
            clear hK K
            refine wpAnyH_ready (rs := [0]) (by kernel_rfl) (by simp) ?_
            refine AllReadyH.cons rfl (fun K hK => ?_) AllReadyH.nil
            refine stepLoad rfl 45 (.tmp 3) rfl (w.heap.size + 1) 0 (by simp [Act.eval]) (chi 40 Q) _ (hc1.out.on hR1).range Try.underlying45 rfl (by rw [infoS, chi_len]) ?_
            simp only [Act.put]
            refine hK.out _ _ trivial (fun hHeld => ?_)
            clear hK K
            refine wpAnyH_ready (rs := [4]) (by kernel_rfl) (by simp) ?_
            refine AllReadyH.cons rfl (fun K hK => ?_) AllReadyH.nil
            go_simp
            refine (withS_at Q (nxB code k) Q1).mono ?_
            rintro e Q2 ⟨rfl, hq2⟩
            have hR2 : Below wr.heap.size wr Q2 := below_over hR1 hq2
            dsimp only
            refine hK.out _ _ trivial (fun hHeld => ?_)
            clear hK K
            have E0 : Hid (Cells Q2 w.heap.size (chi 40 fun _ => false)) := hc0.out.on hR2
            have E1 : Hid (Cells Q2 (w.heap.size + 1) (chi 40 Q)) := hc1.out.on hR2
            have EB : Hid (Cells Q2 bb (chi 40 P)) := hcb.out.on hR2
            have F0 : Hid (Cells (Q2.setCells (w.heap.size + 1) 0 (chi 40 fun j => Q j || nxB code k j)) w.heap.size (chi 40 fun _ => false)) := E0.out.putFar _ (by omega)
            have F1 : Hid (Cells (Q2.setCells (w.heap.size + 1) 0 (chi 40 fun j => Q j || nxB code k j)) (w.heap.size + 1) (chi 40 fun j => Q j || nxB code k j)) := E1.out.put (by rw [chi_len, chi_len])
            have FB : Hid (Cells (Q2.setCells (w.heap.size + 1) 0 (chi 40 fun j => Q j || nxB code k j)) bb (chi 40 P)) := EB.out.putFar _ (by omega)
            have hbF : Below w.heap.size w (Q2.setCells (w.heap.size + 1) 0 (chi 40 fun j => Q j || nxB code k j)) := below_setCells (by omega) _ _ (below_over hb hR2)
            refine wpAnyH_ready (rs := [5]) (by kernel_rfl) (by simp) ?_
            refine AllReadyH.cons rfl (fun K hK => ?_) AllReadyH.nil
            refine stepStore rfl 45 (.tmp 3) (.tmp 20) rfl (w.heap.size + 1) 0 (chi 40 fun j => Q j || nxB code k j).toArray (by simp [Act.eval]) (by simp [Act.eval]) (E1.out.there (by simp [chi_len])) (by rw [infoS]; simp [chi_len]) (all_oneCell_toArray (chi_one _ _)) ?_
            rw [List.toList_toArray]
            clear E0 E1 EB
            generalize Q2.setCells (w.heap.size + 1) 0 (chi 40 fun j => Q j || nxB code k j) = X at *
            simp only [Act.put]
            refine hK.out _ _ trivial (fun hHeld => ?_)
            clear hK K
            refine wpAnyH_done (by kernel_rfl) ?_ _
            clear hHeld hD0 hR1 hR2 hq2 hc0 hc1 hcb hb
            go_wp2
            go_roundw
            case rel => exact ⟨k + 1, _, by omega, by go_num, F0.out, F1.out, FB.out, HSWY.out, hbF⟩
            case measure => simp [intOf]; omega
      · obtain rfl : k = code.length := by omega
        have hki : ¬ (code.length : Int) < (code.length : Int) := by omega
        have heq := run_equal_chi Try.underlying45 Q P wr
        cases ha : alike 40 Q P
        · rw [ha] at heq
          have HLT : Hid (cntS 40 P < cntS 40 Q ∧ cntS 40 Q ≤ 40) := ⟨cnt_lt (fun j _ => hsw.out.up j) ha, cnt_le _ _⟩
          have HQ : Hid (Q 0 = true ∧ ∀ j, Q j = true → Rch code j) := ⟨hsw.out.up 0 hsw.out.zero, hsw.out.sub⟩
          clear ha hsw
          go_wp2_with (first
            | (with_reducible refine wpList_load_mid rfl 45 (.tmp 3) rfl (w.heap.size + 1) 0 (by simp [Act.eval, Act.put]) (chi 40 Q) _ hc1.out.range Try.underlying45 rfl (by rw [infoS, chi_len]) ?_)
            | (with_reducible refine wpList_load_mid rfl 45 (.tmp 4) rfl bb 0 (by simp [Act.eval, Act.put]) (chi 40 P) _ hcb.out.range Try.underlying45 rfl (by rw [infoS, chi_len]) ?_))
          go_roundg (gk - 1)
          case measure => have := HLT.out; have := hn.out; omega
          case rel => exact ⟨Q, by show _ ≤ _; have := HLT.out; have := hn.out; omega, HQ.out, hc0.out, hc1.out, hb⟩
        · rw [ha] at heq
          have HEND : Hid (chi 40 Q = chi 40 (rchB code)) := hsw.out.ends HOK.out ha
          clear ha hsw
          have HC1 : Hid (Cells wr (w.heap.size + 1) (chi 40 (Q))) := hc1.out
          clear hc1
          have HCL : Hid ((chi 40 (Q)).length = 40) := chi_len _ _
          have HCO : Hid (∀ v ∈ chi 40 (Q), v.oneCell' = true) := chi_one _ _
          have HC2 : Hid (Cells (wr.setCells w.heap.size 0 (chi 40 (Q))) w.heap.size (chi 40 (Q))) := hc0.out.put (by rw [chi_len, chi_len])
          have hb2 : Below w.heap.size w (wr.setCells w.heap.size 0 (chi 40 (Q))) := below_setCells (Nat.le_refl _) _ _ hb
          clear hb
          generalize hcs : chi 40 (Q) = cs at *
          have HCS : Hid (chi 40 (Q) = cs) := hcs
          clear hcs
          go_wp2_with (first
            | (with_reducible refine wpList_load_mid rfl 45 (.tmp 3) rfl (w.heap.size + 1) 0 (by simp [Act.eval]) cs _ HC1.out.range Try.underlying45 rfl (by rw [infoS, HCL.out]) ?_)
            | (with_reducible refine wpList_load_mid rfl 45 (.tmp 4) rfl bb 0 (by simp [Act.eval, Act.put]) (chi 40 P) _ hcb.out.range Try.underlying45 rfl (by rw [infoS, chi_len]) ?_)
            | (with_reducible refine wpList_store_mid rfl 45 (.tmp 2) (.tmp 25) rfl w.heap.size 0 cs.toArray (by simp [Act.eval, Act.put]) (by simp [Act.eval, Act.put]) (hc0.out.there (by rw [chi_len]; simpa using HCL.out)) (by rw [infoS]; simpa using HCL.out.symm) (all_oneCell_toArray HCO.out) ?_))
          (try simp only [Exit.inBlock, Exit.then])
          refine bodyPost_ret (ret_cell rfl rfl HC2.out.range Try.underlying45 rfl (by rw [infoS, HCL.out])) rfl ?_
          exact ⟨by rw [HEND.out], hb2⟩
end Pg
end Go.Proofs.Ytlbjnlkeagmpoaa

/- Contracts: leaders, on both sides. -/
import Derived.Test.YtffkkhaiedhaiaaJNx3
import Derived.Test.YtffkkhaiedhaiaaJStep0
namespace Go.Proofs.Ytffkkhaiedhaiaa
namespace Pg
open Go.ChangeShapes Go.WideShapes Go.ChangeAt Go.RowKit St

theorem Cells.only {b k : Nat} {u v : World} {vs : List Value} (h : Cells u k vs) (ho : Only b u v) (hne : k ≠ b) : Cells v k vs := fun i x hx => by
  obtain ⟨h1, h2⟩ := h i x hx
  have hbk := ho.block k hne
  exact ⟨(World.cell?_of_block (w := u) hbk).trans h1, (World.frozen?_of_block (w := u) hbk).trans h2⟩
theorem Lst.form {w : World} {v : Value} {l : List Int} (h : Lst w v l) : ∃ g c, v = .slice (some ⟨g, 0, none⟩) l.length c := by
  obtain ⟨g, c, hv, _⟩ := h
  exact ⟨g, c, hv⟩
theorem Cells.lt {k : Nat} {u : World} {x : Value} {vs : List Value} (h : Cells u k (x :: vs)) : k < u.heap.size := cell_lt (h 0 x rfl).1
theorem Cells.lt' {k n : Nat} {u : World} {P : Nat → Bool} (h : Cells u k (chi n P)) (hn : 0 < n) : k < u.heap.size := cell_lt (h 0 _ (chi_at P hn)).1

/-- What step i makes a leader. -/
def endB (op : Int) : Bool := Lay.jumpB op || decide (op = 20)
def ld1 (code : List Tx.Ins) (i j : Nat) : Bool :=
  (Lay.jumpB (insF code i).1 && (decide ((insF code i).2.1 = (j : Int)) && decide (j < code.length))) || (endB (insF code i).1 && (decide ((i : Int) + 1 = (j : Int)) && decide (j < code.length)))
def ldB (code : List Tx.Ins) : Nat → Nat → Bool
  | 0, j => decide (j = 0)
  | k + 1, j => ldB code k j || ld1 code k j
def ldS (code : List Tx.Ins) (i : Nat) (l : List Int) : List Int :=
  let b := if Lay.jumpB (insF code i).1 then putL l (insF code i).2.1 else l
  if endB (insF code i).1 && decide (i + 1 < code.length) then putL b ((i : Int) + 1) else b
def ldL (code : List Tx.Ins) : Nat → List Int
  | 0 => [0]
  | k + 1 => ldS code k (ldL code k)
theorem ldL_rise (code : List Tx.Ins) : ∀ k, Rise (ldL code k)
  | 0 => by simp [ldL]
  | k + 1 => by
    have h := ldL_rise code k
    have h1 : Rise (if Lay.jumpB (insF code k).1 then putL (ldL code k) (insF code k).2.1 else ldL code k) := by split; exact putL_rise h _; exact h
    unfold ldL ldS
    dsimp only
    split
    · exact putL_rise h1 _
    · exact h1
theorem ldL_len (code : List Tx.Ins) : ∀ k, (ldL code k).length ≤ 2 * k + 1
  | 0 => by simp [ldL]
  | k + 1 => by
    have h := ldL_len code k
    have h1 : (if Lay.jumpB (insF code k).1 then putL (ldL code k) (insF code k).2.1 else ldL code k).length ≤ 2 * k + 2 := by
      split
      · have := putL_len (ldL code k) (insF code k).2.1; omega
      · omega
    unfold ldL ldS
    dsimp only
    split
    · have := putL_len (if Lay.jumpB (insF code k).1 then putL (ldL code k) (insF code k).2.1 else ldL code k) ((k : Int) + 1); omega
    · omega
theorem ldL_mem {code : List Tx.Ins} (hok : Lay.codeOk code = true) : ∀ k, k ≤ code.length → ∀ x, x ∈ ldL code k ↔ ∃ j : Nat, ldB code k j = true ∧ x = (j : Int)
  | 0, _, x => by
    simp only [ldL, ldB, List.mem_singleton, decide_eq_true_eq]
    constructor
    · rintro rfl; exact ⟨0, rfl, rfl⟩
    · rintro ⟨j, rfl, rfl⟩; rfl
  | k + 1, hk, x => by
    have ih := ldL_mem hok k (by omega) x
    have hj := fun h => jump_in hok (k := k) (by omega) h
    unfold ldL ldS ldB ld1
    dsimp only
    generalize insF code k = i at *
    obtain ⟨op, A, B⟩ := i
    dsimp only at *
    have hm : x ∈ (if Lay.jumpB op then putL (ldL code k) A else ldL code k) ↔ ∃ j : Nat, (ldB code k j || (Lay.jumpB op && (decide (A = (j : Int)) && decide (j < code.length)))) = true ∧ x = (j : Int) := by
      by_cases hjb : Lay.jumpB op = true
      · obtain ⟨a0, a1⟩ := hj (by unfold Lay.jumpB at hjb; simpa using hjb)
        rw [if_pos hjb, mem_putL, ih]
        simp only [hjb, Bool.true_and, Bool.or_eq_true, Bool.and_eq_true, decide_eq_true_eq]
        constructor
        · rintro (⟨j, h1, h2⟩ | rfl)
          · exact ⟨j, .inl h1, h2⟩
          · exact ⟨x.toNat, .inr ⟨by omega, by omega⟩, by omega⟩
        · rintro ⟨j, h1 | ⟨h1, h2⟩, h3⟩
          · exact .inl ⟨j, h1, h3⟩
          · right; omega
      · rw [if_neg hjb, ih]
        simp only [Bool.not_eq_true] at hjb
        simp only [hjb, Bool.false_and, Bool.or_false]
    by_cases he : (endB op && decide (k + 1 < code.length)) = true
    · rw [if_pos he, mem_putL, hm]
      simp only [Bool.and_eq_true, decide_eq_true_eq] at he
      simp only [he.1, Bool.true_and, Bool.or_eq_true, Bool.and_eq_true, decide_eq_true_eq]
      constructor
      · rintro (⟨j, h1, h2⟩ | rfl)
        · rcases h1 with h1 | h1
          · exact ⟨j, .inl h1, h2⟩
          · exact ⟨j, .inr (.inl h1), h2⟩
        · exact ⟨k + 1, .inr (.inr ⟨by omega, he.2⟩), by omega⟩
      · rintro ⟨j, h1 | h1 | ⟨h1, h2⟩, h3⟩
        · exact .inl ⟨j, .inl h1, h3⟩
        · exact .inl ⟨j, .inr h1, h3⟩
        · right; omega
    · rw [if_neg he, hm]
      constructor
      · rintro ⟨j, h1, h2⟩
        refine ⟨j, ?_, h2⟩
        rw [← Bool.or_assoc, h1, Bool.true_or]
      · rintro ⟨j, h1, h2⟩
        refine ⟨j, ?_, h2⟩
        rw [← Bool.or_assoc, Bool.or_eq_true] at h1
        rcases h1 with h1 | h1
        · exact h1
        · exfalso
          apply he
          simp only [Bool.and_eq_true, decide_eq_true_eq] at h1 ⊢
          exact ⟨h1.1, by omega⟩
theorem ld_ris {code : List Tx.Ins} (hok : Lay.codeOk code = true) : ldL code code.length = risL (ldB code code.length) 40 := by
  have hl := Lay.ok_len hok
  have hb : ∀ k j, k ≤ code.length → ldB code k j = true → j < code.length := by
    intro k
    induction k with
    | zero => intro j _ h; simp [ldB] at h; omega
    | succ k ih =>
      intro j hk h
      simp only [ldB, ld1, Bool.or_eq_true, Bool.and_eq_true, decide_eq_true_eq] at h
      rcases h with h | h | h
      · exact ih j (by omega) h
      · exact h.2.2
      · exact h.2.2
  refine rise_ext (ldL_rise code _) (risL_rise _ _) fun x => ?_
  rw [ldL_mem hok _ (Nat.le_refl _), risL_mem]
  constructor
  · rintro ⟨j, h, e⟩; exact ⟨j, by have := hb _ j (Nat.le_refl _) h; omega, h, e⟩
  · rintro ⟨j, _, h, e⟩; exact ⟨j, h, e⟩
set_option maxRecDepth 100000 in
set_option maxHeartbeats 2000000 in
theorem leadersIn_at (g yc : Nat) (code : List Tx.Ins) (hok : Lay.codeOk code = true) (w : World) (hrow : Row w g 0 code) :
    Calls Try.prog 43 #[.slice (some ⟨g, 0, none⟩) code.length yc] w fun e w' => e = .returned (.agg (chi 40 (ldB code code.length)).toArray) ∧ Below w.heap.size w w' := by
  have hl40 := (Lay.ok_len hok).2
  have lg : g < w.heap.size := cell_lt (hrow 0 _ (ins_is (Lay.ok_len hok).1)).1
  have HR : Hid (Row w g 0 code) := hrow
  obtain ⟨W, hW⟩ : ∃ W, W = (w.alloc (.cells (chi 40 fun _ => false).toArray 67)).alloc (.cells (chi 40 fun _ => false).toArray 67) := ⟨_, rfl⟩
  have hwW : Below w.heap.size w W := by rw [hW]; exact ((Below.refl _ _).alloc (Nat.le_refl _) _).alloc (by simp) _
  have C0 : Hid (Cells W w.heap.size (chi 40 fun _ => false)) := by show Cells _ _ _; rw [hW]; exact (Cells.new w _ rfl _ _).alloc _
  have C1 : Hid (Cells W (w.heap.size + 1) (chi 40 fun _ => false)) := by show Cells _ _ _; rw [hW]; exact Cells.new (w.alloc _) _ (by simp) _ _
  have C1L : Hid (Cells ((w.alloc (.cells (chi 40 fun _ => false).toArray 67)).alloc (.cells (chi 40 fun _ => false).toArray 67)) (w.heap.size + 1) (chi 40 fun _ => false)) := Cells.new (w.alloc _) _ (by simp) _ _
  have HW : Hid (W = (w.alloc (.cells (chi 40 fun _ => false).toArray 67)).alloc (.cells (chi 40 fun _ => false).toArray 67)) := hW
  clear hW hrow
  have HCO : Hid (∀ v ∈ (chi 40 fun j => decide (j = 0)), v.oneCell' = true) := chi_one _ _
  go_enter Try.func43, Try.ntmps43
  go_wp2_with (first
    | (with_reducible refine wpList_alloc_chi rfl 67 rfl 40 zeroS ?_)
    | (with_reducible refine wpList_build_chi rfl 67 rfl 40 (by decide) Try.underlying67 zeroS ?_)
    | (with_reducible refine wpList_store_mid rfl 67 (.tmp 3) (.tmp 6) rfl (w.heap.size + 1) 0 (chi 40 fun j => decide (j = 0)).toArray (by simp [Act.eval, Act.put]) (by simp [Act.eval, Act.put]) (C1L.out.there (by simp [chi_len])) (by rw [infoS]; simp [chi_len]) (all_oneCell_toArray HCO.out) ?_))
  rw [← HW.out]
  clear HW C1L
  have D0 : Hid (Cells (W.setCells (w.heap.size + 1) 0 (chi 40 fun j => decide (j = 0))) w.heap.size (chi 40 fun _ => false)) := C0.out.putFar _ (by omega)
  have D1 : Hid (Cells (W.setCells (w.heap.size + 1) 0 (chi 40 fun j => decide (j = 0))) (w.heap.size + 1) (chi 40 fun j => decide (j = 0))) := C1.out.put (by rw [chi_len, chi_len])
  have hbD : Below w.heap.size w (W.setCells (w.heap.size + 1) 0 (chi 40 fun j => decide (j = 0))) := below_setCells (by omega) _ _ hwW
  clear C0 C1 hwW HCO
  generalize W.setCells (w.heap.size + 1) 0 (chi 40 fun j => decide (j = 0)) = X at *
  go_loopw [9] (fun i wr => ∃ k : Nat, k ≤ code.length ∧ i = .int .i64 k ∧ Hid (Cells wr w.heap.size (chi 40 fun _ => false)) ∧ Hid (Cells wr (w.heap.size + 1) (chi 40 (ldB code k))) ∧ Below w.heap.size w wr) (fun i _ => code.length - (intOf i).toNat)
  case atStart => exact ⟨0, Nat.zero_le _, rfl, D0.out, D1.out, hbD⟩
  case round =>
    clear D0 D1 hbD
    obtain ⟨k, hk, rfl, hc0, hc1, hb⟩ := hrel
    by_cases hlt : k < code.length
    · obtain ⟨d0, d1, d2⟩ := (HR.out.below hb lg) k _ (ins_is hlt)
      have HLD : Hid (∀ j, ldB code (k + 1) j = (ldB code k j || ld1 code k j)) := fun j => rfl
      have HL1 : Hid (∀ j, ld1 code k j = ((Lay.jumpB (insF code k).1 && (decide ((insF code k).2.1 = (j : Int)) && decide (j < code.length))) || (endB (insF code k).1 && (decide ((k : Int) + 1 = (j : Int)) && decide (j < code.length))))) := fun j => rfl
      generalize insF code k = ins at *
      obtain ⟨op, a, b⟩ := ins
      dsimp only at d0 d1 d2 HL1
      simp only [Nat.zero_add] at d0 d1 d2
      have hki : (k : Int) < (code.length : Int) := by omega
      obtain ⟨X0, hX0⟩ : ∃ X0, X0 = wr.alloc (.cells #[.int .i64 op, .int .i64 a, .int .i64 b] 76) := ⟨_, rfl⟩
      have hb0 : Below wr.heap.size wr X0 := by rw [hX0]; exact (Below.refl _ _).alloc (Nat.le_refl _) _
      have BX0 : Hid (Cells X0 wr.heap.size [.int .i64 op, .int .i64 a, .int .i64 b]) := by show Cells _ _ _; rw [hX0]; exact Cells.new wr _ rfl _ _
      have HX0 : Hid (X0 = wr.alloc (.cells #[.int .i64 op, .int .i64 a, .int .i64 b] 76)) := hX0
      have hz : w.heap.size + 1 < wr.heap.size := hc1.out.lt' (by decide)
      clear hX0
      go_wp2_with fail
      rw [← HX0.out]
      clear HX0 d0 d1 d2
      refine (isJump op a b X0).mono ?_
      rintro e w1 ⟨rfl, hb1⟩
      have hB1 : Below wr.heap.size wr w1 := below_over hb0 hb1
      have E0 : Hid (Cells w1 w.heap.size (chi 40 fun _ => false)) := hc0.out.on hB1
      have E1 : Hid (Cells w1 (w.heap.size + 1) (chi 40 (ldB code k))) := hc1.out.on hB1
      have BX1 : Hid (Cells w1 wr.heap.size [.int .i64 op, .int .i64 a, .int .i64 b]) := BX0.out.on hb1
      have hw1 : Below w.heap.size w w1 := below_over hb hB1
      clear hb1 hb0 BX0 hB1 hc0 hc1 hb
      cases hj : Lay.jumpB op
      · obtain ⟨c0, _⟩ := BX1.out.g0
        obtain ⟨c1, _⟩ := BX1.out.g1
        obtain ⟨c2, _⟩ := BX1.out.g2
        go_wp2_with fail
        refine (isJump op a b w1).mono ?_
        rw [hj]
        rintro e w2 ⟨rfl, hb2⟩
        have F0 : Hid (Cells w2 w.heap.size (chi 40 fun _ => false)) := E0.out.on hb2
        have F1 : Hid (Cells w2 (w.heap.size + 1) (chi 40 (ldB code k))) := E1.out.on hb2
        have hw2 : Below w.heap.size w w2 := below_over hw1 hb2
        have BX2 : Hid (Cells w2 wr.heap.size [.int .i64 op, .int .i64 a, .int .i64 b]) := BX1.out.on hb2
        clear hb2 E0 E1 hw1 BX1 c0 c1 c2
        obtain ⟨c0, _⟩ := BX2.out.g0
        by_cases h20 : op = 20
        · subst h20
          have HP : Hid (∀ j, (ldB code k j || (decide ((k : Int) + 1 = (j : Int)) && decide (j < code.length))) = ldB code (k + 1) j) := fun j => by
            rw [HLD.out, HL1.out, hj]; simp [endB]
          clear HLD HL1 hj
          have h20b : ((20 : Int) == 20) = true := rfl
          go_wp2_with fail
          refine (addIn_at (some ⟨g, 0, none⟩) yc code.length hl40 ((k : Int) + 1) (w.heap.size + 1) (ldB code k) w2 F1.out).mono ?_
          rintro e w3 ⟨rfl, hc3, ho⟩
          have G0 : Hid (Cells w3 w.heap.size (chi 40 fun _ => false)) := F0.out.only ho (by omega)
          have G1 : Hid (Cells w3 (w.heap.size + 1) (chi 40 (ldB code (k + 1)))) := by show Cells _ _ _; rw [← chi_congr (fun j hj => HP.out j)]; exact hc3
          have hw3 : Below w.heap.size w w3 := hw2.trans (ho.below (Nat.le_succ _))
          clear ho hc3 F0 F1 hw2 HP BX2 c0
          go_wp2
          go_roundw
          case rel => exact ⟨k + 1, by omega, by go_num, G0.out, G1.out, hw3⟩
          case measure => simp [intOf]; omega
        · have HP : Hid (Cells w2 (w.heap.size + 1) (chi 40 (ldB code (k + 1)))) := by
            show Cells _ _ _
            rw [chi_congr (Q := ldB code k) (fun j _ => by rw [HLD.out, HL1.out, hj]; simp [endB, hj, h20])]
            exact F1.out
          have h20b : (op == 20) = false := by simp [h20]
          clear HLD HL1 hj F1 h20
          go_wp2
          go_roundw
          case rel => exact ⟨k + 1, by omega, by go_num, F0.out, HP.out, hw2⟩
          case measure => simp [intOf]; omega
      · have HP : Hid (∀ j, ((ldB code k j || (decide (a = (j : Int)) && decide (j < code.length))) || (decide ((k : Int) + 1 = (j : Int)) && decide (j < code.length))) = ldB code (k + 1) j) := fun j => by
          rw [HLD.out, HL1.out, hj]; simp [endB, hj, Bool.or_assoc]
        clear HLD HL1
        obtain ⟨c0, _⟩ := BX1.out.g0
        obtain ⟨c1, _⟩ := BX1.out.g1
        obtain ⟨c2, _⟩ := BX1.out.g2
        go_wp2_with fail
        refine (addIn_at (some ⟨g, 0, none⟩) yc code.length hl40 a (w.heap.size + 1) (ldB code k) w1 E1.out).mono ?_
        rintro e w2 ⟨rfl, hc2', ho⟩
        have F0 : Hid (Cells w2 w.heap.size (chi 40 fun _ => false)) := E0.out.only ho (by omega)
        have F1 : Hid (Cells w2 (w.heap.size + 1) (chi 40 fun j => ldB code k j || (decide (a = (j : Int)) && decide (j < code.length)))) := hc2'
        have hw2 : Below w.heap.size w w2 := hw1.trans (ho.below (Nat.le_succ _))
        have BX2 : Hid (Cells w2 wr.heap.size [.int .i64 op, .int .i64 a, .int .i64 b]) := BX1.out.only ho (by omega)
        clear ho hc2' E0 E1 hw1 BX1 c0 c1 c2
        obtain ⟨c0, _⟩ := BX2.out.g0
        obtain ⟨c1, _⟩ := BX2.out.g1
        obtain ⟨c2, _⟩ := BX2.out.g2
        go_wp2_with fail
        refine (isJump op a b w2).mono ?_
        rw [hj]
        rintro e w3 ⟨rfl, hb3⟩
        have G0 : Hid (Cells w3 w.heap.size (chi 40 fun _ => false)) := F0.out.on hb3
        have G1 : Hid (Cells w3 (w.heap.size + 1) (chi 40 fun j => ldB code k j || (decide (a = (j : Int)) && decide (j < code.length)))) := F1.out.on hb3
        have hw3 : Below w.heap.size w w3 := below_over hw2 hb3
        clear hb3 F0 F1 hw2 BX2 c0 c1 c2 hj
        go_wp2_with fail
        refine (addIn_at (some ⟨g, 0, none⟩) yc code.length hl40 ((k : Int) + 1) (w.heap.size + 1) _ w3 G1.out).mono ?_
        rintro e w4 ⟨rfl, hc4, ho⟩
        have H0 : Hid (Cells w4 w.heap.size (chi 40 fun _ => false)) := G0.out.only ho (by omega)
        have H1 : Hid (Cells w4 (w.heap.size + 1) (chi 40 (ldB code (k + 1)))) := by show Cells _ _ _; rw [← chi_congr (fun j hj => HP.out j)]; exact hc4
        have hw4 : Below w.heap.size w w4 := hw3.trans (ho.below (Nat.le_succ _))
        clear ho hc4 G0 G1 hw3 HP
        go_wp2
        go_roundw
        case rel => exact ⟨k + 1, by omega, by go_num, H0.out, H1.out, hw4⟩
        case measure => simp [intOf]; omega
    · obtain rfl : k = code.length := by omega
      have HC1 : Hid (Cells wr (w.heap.size + 1) (chi 40 (ldB code code.length))) := hc1.out
      clear hc1
      have HCL : Hid ((chi 40 (ldB code code.length)).length = 40) := chi_len _ _
      have HCO : Hid (∀ v ∈ chi 40 (ldB code code.length), v.oneCell' = true) := chi_one _ _
      have HC2 : Hid (Cells (wr.setCells w.heap.size 0 (chi 40 (ldB code code.length))) w.heap.size (chi 40 (ldB code code.length))) := hc0.out.put (by rw [chi_len, chi_len])
      have hb2 : Below w.heap.size w (wr.setCells w.heap.size 0 (chi 40 (ldB code code.length))) := below_setCells (Nat.le_refl _) _ _ hb
      clear hb
      generalize hcs : chi 40 (ldB code code.length) = cs at *
      have HCS : Hid (chi 40 (ldB code code.length) = cs) := hcs
      clear hcs
      go_wp2_with (first
        | (with_reducible refine wpList_load_mid rfl 67 (.tmp 3) rfl (w.heap.size + 1) 0 (by simp [Act.eval, Act.put]) cs _ HC1.out.range Try.underlying67 rfl (by rw [infoS, HCL.out]) ?_)
        | (with_reducible refine wpList_store_mid rfl 67 (.tmp 2) (.tmp 32) rfl w.heap.size 0 cs.toArray (by simp [Act.eval, Act.put]) (by simp [Act.eval, Act.put]) (hc0.out.there (by rw [chi_len]; simpa using HCL.out)) (by rw [infoS]; simpa using HCL.out.symm) (all_oneCell_toArray HCO.out) ?_))
      (try simp only [Exit.inBlock, Exit.then])
      refine bodyPost_ret (ret_cell rfl rfl HC2.out.range Try.underlying67 rfl (by rw [infoS, HCL.out])) rfl ?_
      exact ⟨by rw [HCS.out], hb2⟩
set_option maxRecDepth 100000 in
set_option maxHeartbeats 2000000 in
theorem l9Leaders_at (g yc : Nat) (code : List Tx.Ins) (hok : Lay.codeOk code = true) (w : World) (hrow : Row w g 0 code) :
    Calls Try.prog 48 #[.slice (some ⟨g, 0, none⟩) code.length yc] w fun e w' => ∃ v, e = .returned v ∧ Lst w' v (risL (ldB code code.length) 40) ∧ Below w.heap.size w w' := by
  have hl40 := (Lay.ok_len hok).2
  have lg : g < w.heap.size := cell_lt (hrow 0 _ (ins_is (Lay.ok_len hok).1)).1
  have HR : Hid (Row w g 0 code) := hrow
  have HE : Hid (ldL code code.length = risL (ldB code code.length) 40) := ld_ris hok
  have HG0 : Hid (Lst (w.alloc (.cells #[.int .i64 0] 2)) (.slice (some ⟨w.heap.size, 0, none⟩) 1 1) (ldL code 0)) := (grow_lit1 w 0).lst
  have hb0 : Below w.heap.size w (w.alloc (.cells #[.int .i64 0] 2)) := (Below.refl _ _).alloc (Nat.le_refl _) _
  clear hrow
  go_enter Try.func48, Try.ntmps48
  go_wp2_with fail
  go_loopw [3, 4] (fun v i wr => ∃ k : Nat, k ≤ code.length ∧ i = .int .i64 k ∧ Hid (Lst wr v (ldL code k)) ∧ Below w.heap.size w wr) (fun _ i _ => code.length - (intOf i).toNat)
  case atStart => exact ⟨0, Nat.zero_le _, rfl, HG0.out, hb0⟩
  case round =>
    clear HG0 hb0
    obtain ⟨k, hk, rfl, hls, hb⟩ := hrel
    by_cases hlt : k < code.length
    · obtain ⟨d0, d1, d2⟩ := (HR.out.below hb lg) k _ (ins_is hlt)
      have lgr : g < wr.heap.size := Nat.lt_of_lt_of_le lg hb.size
      have HLS : Hid (ldL code (k + 1) = ldS code k (ldL code k)) := rfl
      have HSS : Hid (ldS code k (ldL code k) = (if endB (insF code k).1 && decide (k + 1 < code.length) then putL (if Lay.jumpB (insF code k).1 then putL (ldL code k) (insF code k).2.1 else ldL code k) ((k : Int) + 1) else (if Lay.jumpB (insF code k).1 then putL (ldL code k) (insF code k).2.1 else ldL code k))) := rfl
      have hlen := ldL_len code k
      obtain ⟨gv, cv, rfl⟩ := hls.out.form
      generalize insF code k = ins at *
      obtain ⟨op, a, b⟩ := ins
      dsimp only at d0 d1 d2 HSS
      simp only [Nat.zero_add] at d0 d1 d2
      have hki : (k : Int) < (code.length : Int) := by omega
      generalize ldL code k = ls at *
      go_wp2_with fail
      refine (St.l3Jump op wr).mono ?_
      rintro e _ ⟨rfl, rfl⟩
      cases hj : Lay.jumpB op
      · go_wp2_with fail
        refine (St.l3Jump op wr).mono ?_
        rw [hj]
        rintro e _ ⟨rfl, rfl⟩
        by_cases h20 : op = 20
        · subst h20
          by_cases hl1 : k + 1 < code.length
          · have hli : (k : Int) + 1 < (code.length : Int) := by omega
            have HV : Hid (ldL code (k + 1) = putL ls ((k : Int) + 1)) := by show _ = _; rw [HLS.out, HSS.out]; simp [endB, hl1, hj]
            clear HLS HSS hj
            go_wp2_with fail
            refine (l1Put ls (.slice (some ⟨gv, 0, none⟩) ls.length cv) ((k : Int) + 1) (by omega) wr hls.out).mono ?_
            rintro e w3 ⟨v', rfl, hl3, hb3⟩
            have hw3 : Below w.heap.size w w3 := below_over hb hb3
            have HL3 : Hid (Lst w3 v' (ldL code (k + 1))) := by show Lst _ _ _; rw [HV.out]; exact hl3
            clear hb3 hl3 HV d0 d1 d2 hls hb lgr
            go_wp2
            go_roundw
            case rel => exact ⟨k + 1, by omega, by go_num, HL3.out, hw3⟩
            case measure => simp [intOf]; omega
          · have hli : ¬ (k : Int) + 1 < (code.length : Int) := by omega
            have HV : Hid (Lst wr (.slice (some ⟨gv, 0, none⟩) ls.length cv) (ldL code (k + 1))) := by show Lst _ _ _; rw [HLS.out, HSS.out]; simpa [hl1, hj] using hls.out
            clear HLS HSS hj
            go_wp2
            go_roundw
            case rel => exact ⟨k + 1, by omega, by go_num, HV.out, hb⟩
            case measure => simp [intOf]; omega
        · have h20b : (op == 20) = false := by simp [h20]
          have HV : Hid (Lst wr (.slice (some ⟨gv, 0, none⟩) ls.length cv) (ldL code (k + 1))) := by show Lst _ _ _; rw [HLS.out, HSS.out]; simpa [endB, h20, hj] using hls.out
          clear HLS HSS hj h20
          go_wp2
          go_roundw
          case rel => exact ⟨k + 1, by omega, by go_num, HV.out, hb⟩
          case measure => simp [intOf]; omega
      · go_wp2_with fail
        refine (l1Put ls (.slice (some ⟨gv, 0, none⟩) ls.length cv) a (by omega) wr hls.out).mono ?_
        rintro e w3 ⟨v', rfl, hl3, hb3⟩
        have hw3 : Below w.heap.size w w3 := below_over hb hb3
        have HL3 : Hid (Lst w3 v' (putL ls a)) := hl3
        have c0 := (hb3.cell (p := ⟨g, k * 3, none⟩) lgr).trans d0
        have hpl := putL_len ls a
        clear hb3 hl3 d0 d1 d2 hls hb
        go_wp2_with fail
        refine (St.l3Jump op w3).mono ?_
        rw [hj]
        rintro e _ ⟨rfl, rfl⟩
        by_cases hl1 : k + 1 < code.length
        · have hli : (k : Int) + 1 < (code.length : Int) := by omega
          have HV : Hid (ldL code (k + 1) = putL (putL ls a) ((k : Int) + 1)) := by show _ = _; rw [HLS.out, HSS.out]; simp [endB, hl1, hj]
          clear HLS HSS hj
          go_wp2_with fail
          refine (l1Put (putL ls a) v' ((k : Int) + 1) (by omega) w3 HL3.out).mono ?_
          rintro e w4 ⟨v4, rfl, hl4, hb4⟩
          have hw4 : Below w.heap.size w w4 := below_over hw3 hb4
          have HL4 : Hid (Lst w4 v4 (ldL code (k + 1))) := by show Lst _ _ _; rw [HV.out]; exact hl4
          clear hb4 hl4 HV HL3 hw3 lgr c0
          go_wp2
          go_roundw
          case rel => exact ⟨k + 1, by omega, by go_num, HL4.out, hw4⟩
          case measure => simp [intOf]; omega
        · have hli : ¬ (k : Int) + 1 < (code.length : Int) := by omega
          have HV : Hid (Lst w3 v' (ldL code (k + 1))) := by show Lst _ _ _; rw [HLS.out, HSS.out]; simpa [hl1, hj] using HL3.out
          clear HLS HSS hj HL3 c0
          go_wp2
          go_roundw
          case rel => exact ⟨k + 1, by omega, by go_num, HV.out, hw3⟩
          case measure => simp [intOf]; omega
    · obtain rfl : k = code.length := by omega
      go_wp2
      go_ret
      exact ⟨_, rfl, by rw [← HE.out]; exact hls.out, hb⟩
end Pg
end Go.Proofs.Ytffkkhaiedhaiaa

/- Contracts: both sides' Straight. -/
namespace Go.Proofs.Ytffkkhaiedhaiaa
namespace Pg
open Go.ChangeShapes Go.WideShapes Go.ChangeAt Go.RowKit St

theorem ldB_mono (code : List Tx.Ins) {j : Nat} : ∀ {k m : Nat}, k ≤ m → ldB code k j = true → ldB code m j = true := by
  intro k m h
  induction h with
  | refl => exact id
  | step h ih => intro hk; simp only [ldB, ih hk, Bool.true_or]
theorem ld_has {code : List Tx.Ins} (j : Nat) (hj : j < 40) : decide (((j : Nat) : Int) ∈ risL (ldB code code.length) 40) = ldB code code.length j := by
  cases h : ldB code code.length j
  · simp only [decide_eq_false_iff_not, risL_mem]
    rintro ⟨i, _, h1, h2⟩
    rw [show j = i by omega] at h
    rw [h] at h1; simp at h1
  · simp only [decide_eq_true_eq, risL_mem]
    exact ⟨j, hj, h, rfl⟩

end Pg
end Go.Proofs.Ytffkkhaiedhaiaa

/- What comes out of two numbers, as the specification tells it. -/
namespace Go.Proofs.Ytffkkhaiedhaiaa
namespace Pg
open Go.ChangeShapes Go.WideShapes Go.ChangeAt Go.RowKit Wd

def sumS (op a b : Int) : Int := if op = 4 then wrap32 (a + b) else if op = 5 then wrap32 (a - b) else if op = 6 then wrap32 (a * b) else wrap32 (a.tdiv b)
theorem specWrap8 (n : Int) (w : World) : Calls Try.prog 106 #[.int .i64 n] w fun e w' => e = .returned (.int .i64 (wrap32 n)) ∧ w = w' := by
  have hb := (wrap_bd n).1
  have hc := (wrap_bd n).2
  go_enter Try.func106, Try.ntmps106
  go_wp2
  go_ret
  exact ⟨rfl, rfl⟩
set_option maxHeartbeats 1000000 in
theorem l8Sum_at (op a b : Int) (hop : op = 4 ∨ op = 5 ∨ op = 6 ∨ op = 7) (ha : okB a = true) (hb : okB b = true) (h0 : op = 7 → b ≠ 0) (w : World) :
    Calls Try.prog 88 #[.int .i64 op, .int .i64 a, .int .i64 b] w fun e w' => e = .returned (.int .i64 (sumS op a b)) ∧ w = w' := by
  have a1 := (ok_yes ha).1
  have a2 := (ok_yes ha).2
  have b1 := (ok_yes hb).1
  have b2 := (ok_yes hb).2
  clear ha hb
  rcases hop with rfl | rfl | rfl | rfl
  · clear h0
    go_enter Try.func88, Try.ntmps88
    go_wp2_with fail
    refine (specWrap8 _ _).mono ?_
    rintro e w1 ⟨rfl, rfl⟩
    go_wp2
    go_ret
    exact ⟨rfl, rfl⟩
  · clear h0
    go_enter Try.func88, Try.ntmps88
    go_wp2_with fail
    refine (specWrap8 _ _).mono ?_
    rintro e w1 ⟨rfl, rfl⟩
    go_wp2
    go_ret
    exact ⟨rfl, rfl⟩
  · clear h0
    go_enter Try.func88, Try.ntmps88
    go_wp2_with fail
    refine (specWrap8 _ _).mono ?_
    rintro e w1 ⟨rfl, rfl⟩
    go_wp2
    go_ret
    exact ⟨ret_int (w32_64 _), rfl⟩
  · have hz := h0 rfl
    clear h0
    go_enter Try.func88, Try.ntmps88
    go_wp2_with fail
    refine (specWrap8 _ _).mono ?_
    rintro e w1 ⟨rfl, rfl⟩
    go_wp2
    go_ret
    exact ⟨ret_int (w32_64 _), rfl⟩
end Pg
end Go.Proofs.Ytffkkhaiedhaiaa

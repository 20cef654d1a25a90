/- Contracts: leaders, on both sides. -/
import Derived.Test.YtinanjjhkddikaaGreatJNx3
import Derived.Deep.LoopGhost
import Derived.Deep.RegionHeld3
import Derived.Test.YtinanjjhkddikaaGreatJFl0
import Derived.Test.YtinanjjhkddikaaGreatJPg2
namespace Go.Proofs.YtinanjjhkddikaaGreat
namespace Pg
open Go.ChangeShapes Go.WideShapes Go.ChangeAt Go.RowKit St

theorem Cells.only {b k : Nat} {u v : World} {vs : List Value} (h : Cells u k vs) (ho : Only b u v) (hne : k ≠ b) : Cells v k vs := fun i x hx => by
  obtain ⟨h1, h2⟩ := h i x hx
  have hbk := ho.block k hne
  exact ⟨(World.cell?_of_block (w := u) hbk).trans h1, (World.frozen?_of_block (w := u) hbk).trans h2⟩
theorem Lst.form {w : World} {v : Value} {l : List Int} (h : Lst w v l) : ∃ g c, v = .slice (some ⟨g, 0, none⟩) l.length c := by
  obtain ⟨g, c, hv, _⟩ := h
  exact ⟨g, c, hv⟩
theorem Cells.lt {k : Nat} {u : World} {x : Value} {vs : List Value} (h : Cells u k (x :: vs)) : k < u.heap.size := cell_lt (h 0 x rfl).1
theorem Cells.lt' {k n : Nat} {u : World} {P : Nat → Bool} (h : Cells u k (chi n P)) (hn : 0 < n) : k < u.heap.size := cell_lt (h 0 _ (chi_at P hn)).1

/-- What step i makes a leader. -/
def endB (op : Int) : Bool := Lay.jumpB op || decide (op = 20)
def ld1 (code : List Tx.Ins) (i j : Nat) : Bool :=
  (Lay.jumpB (insF code i).1 && (decide ((insF code i).2.1 = (j : Int)) && decide (j < code.length))) || (endB (insF code i).1 && (decide ((i : Int) + 1 = (j : Int)) && decide (j < code.length)))
def ldB (code : List Tx.Ins) : Nat → Nat → Bool
  | 0, j => decide (j = 0)
  | k + 1, j => ldB code k j || ld1 code k j
def ldS (code : List Tx.Ins) (i : Nat) (l : List Int) : List Int :=
  let b := if Lay.jumpB (insF code i).1 then putL l (insF code i).2.1 else l
  if endB (insF code i).1 && decide (i + 1 < code.length) then putL b ((i : Int) + 1) else b
def ldL (code : List Tx.Ins) : Nat → List Int
  | 0 => [0]
  | k + 1 => ldS code k (ldL code k)
theorem ldL_rise (code : List Tx.Ins) : ∀ k, Rise (ldL code k)
  | 0 => by simp [ldL]
  | k + 1 => by
    have h := ldL_rise code k
    have h1 : Rise (if Lay.jumpB (insF code k).1 then putL (ldL code k) (insF code k).2.1 else ldL code k) := by split; exact putL_rise h _; exact h
    unfold ldL ldS
    dsimp only
    split
    · exact putL_rise h1 _
    · exact h1
theorem ldL_len (code : List Tx.Ins) : ∀ k, (ldL code k).length ≤ 2 * k + 1
  | 0 => by simp [ldL]
  | k + 1 => by
    have h := ldL_len code k
    have h1 : (if Lay.jumpB (insF code k).1 then putL (ldL code k) (insF code k).2.1 else ldL code k).length ≤ 2 * k + 2 := by
      split
      · have := putL_len (ldL code k) (insF code k).2.1; omega
      · omega
    unfold ldL ldS
    dsimp only
    split
    · have := putL_len (if Lay.jumpB (insF code k).1 then putL (ldL code k) (insF code k).2.1 else ldL code k) ((k : Int) + 1); omega
    · omega
theorem ldL_mem {code : List Tx.Ins} (hok : Lay.codeOk code = true) : ∀ k, k ≤ code.length → ∀ x, x ∈ ldL code k ↔ ∃ j : Nat, ldB code k j = true ∧ x = (j : Int)
  | 0, _, x => by
    simp only [ldL, ldB, List.mem_singleton, decide_eq_true_eq]
    constructor
    · rintro rfl; exact ⟨0, rfl, rfl⟩
    · rintro ⟨j, rfl, rfl⟩; rfl
  | k + 1, hk, x => by
    have ih := ldL_mem hok k (by omega) x
    have hj := fun h => jump_in hok (k := k) (by omega) h
    unfold ldL ldS ldB ld1
    dsimp only
    generalize insF code k = i at *
    obtain ⟨op, A, B⟩ := i
    dsimp only at *
    have hm : x ∈ (if Lay.jumpB op then putL (ldL code k) A else ldL code k) ↔ ∃ j : Nat, (ldB code k j || (Lay.jumpB op && (decide (A = (j : Int)) && decide (j < code.length)))) = true ∧ x = (j : Int) := by
      by_cases hjb : Lay.jumpB op = true
      · obtain ⟨a0, a1⟩ := hj (by unfold Lay.jumpB at hjb; simpa using hjb)
        rw [if_pos hjb, mem_putL, ih]
        simp only [hjb, Bool.true_and, Bool.or_eq_true, Bool.and_eq_true, decide_eq_true_eq]
        constructor
        · rintro (⟨j, h1, h2⟩ | rfl)
          · exact ⟨j, .inl h1, h2⟩
          · exact ⟨x.toNat, .inr ⟨by omega, by omega⟩, by omega⟩
        · rintro ⟨j, h1 | ⟨h1, h2⟩, h3⟩
          · exact .inl ⟨j, h1, h3⟩
          · right; omega
      · rw [if_neg hjb, ih]
        simp only [Bool.not_eq_true] at hjb
        simp only [hjb, Bool.false_and, Bool.or_false]
    by_cases he : (endB op && decide (k + 1 < code.length)) = true
    · rw [if_pos he, mem_putL, hm]
      simp only [Bool.and_eq_true, decide_eq_true_eq] at he
      simp only [he.1, Bool.true_and, Bool.or_eq_true, Bool.and_eq_true, decide_eq_true_eq]
      constructor
      · rintro (⟨j, h1, h2⟩ | rfl)
        · rcases h1 with h1 | h1
          · exact ⟨j, .inl h1, h2⟩
          · exact ⟨j, .inr (.inl h1), h2⟩
        · exact ⟨k + 1, .inr (.inr ⟨by omega, he.2⟩), by omega⟩
      · rintro ⟨j, h1 | h1 | ⟨h1, h2⟩, h3⟩
        · exact .inl ⟨j, .inl h1, h3⟩
        · exact .inl ⟨j, .inr h1, h3⟩
        · right; omega
    · rw [if_neg he, hm]
      constructor
      · rintro ⟨j, h1, h2⟩
        refine ⟨j, ?_, h2⟩
        rw [← Bool.or_assoc, h1, Bool.true_or]
      · rintro ⟨j, h1, h2⟩
        refine ⟨j, ?_, h2⟩
        rw [← Bool.or_assoc, Bool.or_eq_true] at h1
        rcases h1 with h1 | h1
        · exact h1
        · exfalso
          apply he
          simp only [Bool.and_eq_true, decide_eq_true_eq] at h1 ⊢
          exact ⟨h1.1, by omega⟩
theorem ld_ris {code : List Tx.Ins} (hok : Lay.codeOk code = true) : ldL code code.length = risL (ldB code code.length) 40 := by
  have hl := Lay.ok_len hok
  have hb : ∀ k j, k ≤ code.length → ldB code k j = true → j < code.length := by
    intro k
    induction k with
    | zero => intro j _ h; simp [ldB] at h; omega
    | succ k ih =>
      intro j hk h
      simp only [ldB, ld1, Bool.or_eq_true, Bool.and_eq_true, decide_eq_true_eq] at h
      rcases h with h | h | h
      · exact ih j (by omega) h
      · exact h.2.2
      · exact h.2.2
  refine rise_ext (ldL_rise code _) (risL_rise _ _) fun x => ?_
  rw [ldL_mem hok _ (Nat.le_refl _), risL_mem]
  constructor
  · rintro ⟨j, h, e⟩; exact ⟨j, by have := hb _ j (Nat.le_refl _) h; omega, h, e⟩
  · rintro ⟨j, _, h, e⟩; exact ⟨j, h, e⟩
def ldrA (l : List Tx.Ins) : List Int := if Lay.codeOk l then risL (ldB l l.length) 40 else []
theorem ldrA_len (l : List Tx.Ins) : (ldrA l).length ≤ 41 := by
  unfold ldrA
  split
  · have := risL_len (ldB l l.length) 40; omega
  · simp

end Pg
end Go.Proofs.YtinanjjhkddikaaGreat

/- Contracts: what is reached, on both sides. -/
namespace Go.Proofs.YtinanjjhkddikaaGreat
namespace Pg
open Go.ChangeShapes Go.WideShapes Go.ChangeAt Go.RowKit St

inductive Rch (code : List Tx.Ins) : Nat → Prop
  | zero : Rch code 0
  | step {a j : Nat} : Rch code a → nxB code a j = true → Rch code j
open Classical in
noncomputable def rchB (code : List Tx.Ins) (j : Nat) : Bool := decide (Rch code j)
theorem rchB_iff {code : List Tx.Ins} {j : Nat} : rchB code j = true ↔ Rch code j := by simp [rchB]
theorem nxB_lt {code : List Tx.Ins} {a j : Nat} (h : nxB code a j = true) : j < code.length := by
  unfold nxB at h
  simp only [Bool.and_eq_true, decide_eq_true_eq] at h
  exact h.2
theorem Rch.lt {code : List Tx.Ins} (h0 : 0 < code.length) {j : Nat} (h : Rch code j) : j < code.length := by
  cases h with
  | zero => exact h0
  | step _ h => exact nxB_lt h
theorem Rch.least {code : List Tx.Ins} {S : Nat → Prop} (h0 : S 0) (hs : ∀ a, S a → ∀ j, nxB code a j = true → S j) {j : Nat} (h : Rch code j) : S j := by
  induction h with
  | zero => exact h0
  | step _ h ih => exact hs _ ih _ h

def cntS (n : Nat) (P : Nat → Bool) : Nat := (List.range n).countP P
theorem cnt_le (n : Nat) (P : Nat → Bool) : cntS n P ≤ n := by
  have := List.countP_le_length (p := P) (l := List.range n)
  simpa [cntS] using this
theorem cnt_succ (n : Nat) (P : Nat → Bool) : cntS (n + 1) P = cntS n P + (if P n then 1 else 0) := by
  unfold cntS
  rw [List.range_succ, List.countP_append]
  cases h : P n <;> simp [h]
theorem cnt_mono {P Q : Nat → Bool} : ∀ {n : Nat}, (∀ j, j < n → P j = true → Q j = true) → cntS n P ≤ cntS n Q
  | 0, _ => by simp [cntS]
  | n + 1, h => by
    have ih := cnt_mono (n := n) fun j hj => h j (by omega)
    rw [cnt_succ, cnt_succ]
    cases hp : P n
    · simp; omega
    · rw [h n (by omega) hp]; simp; omega
theorem cnt_lt {P Q : Nat → Bool} : ∀ {n : Nat}, (∀ j, j < n → P j = true → Q j = true) → alike n Q P = false → cntS n P < cntS n Q
  | 0, _, h => by simp [alike] at h
  | n + 1, h, hne => by
    rw [cnt_succ, cnt_succ]
    cases ha : alike n Q P
    · have ih := cnt_lt (n := n) (fun j hj => h j (by omega)) ha
      cases hp : P n
      · simp; omega
      · rw [h n (by omega) hp]; simp; omega
    · have hm := cnt_mono (n := n) fun j hj => h j (by omega)
      have hdiff : Q n ≠ P n := by
        intro e
        have : alike (n + 1) Q P = true := alike_iff.2 fun j hj => by
          rcases Nat.lt_or_ge j n with h1 | h1
          · exact alike_iff.1 ha j h1
          · rw [show j = n by omega]; exact e
        rw [this] at hne; simp at hne
      cases hp : P n
      · cases hq : Q n
        · rw [hp, hq] at hdiff; simp at hdiff
        · simp; omega
      · rw [h n (by omega) hp, hp] at hdiff; simp at hdiff
/-- Where the program stands in a round: P what was there when it began, Q by now. -/
structure Swp9 (code : List Tx.Ins) (P Q : Nat → Bool) (k : Nat) : Prop where
  up : ∀ j, P j = true → Q j = true
  sub : ∀ j, Q j = true → Rch code j
  zero : P 0 = true
  done : ∀ a, a < k → P a = true → ∀ j, nxB code a j = true → Q j = true
theorem Swp9.yes {code : List Tx.Ins} {P Q : Nat → Bool} {k : Nat} (h : Swp9 code P Q k) (hk : Q k = true) : Swp9 code P (fun j => Q j || nxB code k j) (k + 1) :=
  ⟨fun j hj => by rw [h.up j hj, Bool.true_or], fun j hj => by
    rw [Bool.or_eq_true] at hj
    rcases hj with hj | hj
    · exact h.sub j hj
    · exact .step (h.sub k hk) hj, h.zero, fun a ha hp j hj => by
    rcases Nat.lt_or_ge a k with h1 | h1
    · rw [h.done a h1 hp j hj, Bool.true_or]
    · rw [show a = k by omega] at hj
      rw [hj, Bool.or_true]⟩
theorem Swp9.no {code : List Tx.Ins} {P Q : Nat → Bool} {k : Nat} (h : Swp9 code P Q k) (hk : Q k = false) : Swp9 code P Q (k + 1) :=
  ⟨h.up, h.sub, h.zero, fun a ha hp j hj => by
    rcases Nat.lt_or_ge a k with h1 | h1
    · exact h.done a h1 hp j hj
    · rw [show a = k by omega] at hp
      rw [h.up k hp] at hk; simp at hk⟩
theorem Swp9.ends {code : List Tx.Ins} (hok : Lay.codeOk code = true) {P Q : Nat → Bool} (h : Swp9 code P Q code.length) (ha : alike 40 Q P = true) : chi 40 Q = chi 40 (rchB code) := by
  have hl := Lay.ok_len hok
  refine chi_congr fun j hj => ?_
  rw [Bool.eq_iff_iff, rchB_iff]
  refine ⟨h.sub j, fun hr => ?_⟩
  have key : Q j = true ∧ j < code.length := by
    refine Rch.least (S := fun j => Q j = true ∧ j < code.length) ⟨h.up 0 h.zero, hl.1⟩ ?_ hr
    rintro a ⟨h1, h2⟩ j hj
    refine ⟨h.done a h2 ?_ j hj, nxB_lt hj⟩
    rw [← alike_iff.1 ha a (by omega)]; exact h1
  exact key.1

theorem stepLoad {w : World} {ops : Array Oper} {o : Oper} {a : Act} {K : Act → World → Prop} {Q : Exit → Act → World → Prop} {E : Prop} (hgd : o.guard = none) (ty : TypeId) (x : Operand) (ho : o.op = .load ty x)
    (b of : Nat) (hx : a.eval x = .pointer (some ⟨b, of, none⟩)) (cs : List Value) (d : TypeDesc) (hc : w.rangeAt b of cs)
    (hu : Tryz.prog.underlying ty = some d) (hd : d.isRow = true) (hi : (Tryz.prog.info? ty).map (·.size) = some cs.length)
    (h : K (a.put o.dst (.agg cs.toArray)) w) : if Region.wanted o (yielded ops a.tmps) = true then Oper.wp Tryz.prog o a w K Q else E := by
  have hw : Region.wanted o (yielded ops a.tmps) = true := by simp [Region.wanted, hgd]
  rw [if_pos hw]
  exact wp_load_mid ty x ho b of hx cs d hc hu hd hi h
theorem stepStore {w : World} {ops : Array Oper} {o : Oper} {a : Act} {K : Act → World → Prop} {Q : Exit → Act → World → Prop} {E : Prop} (hgd : o.guard = none) (ty : TypeId) (x y : Operand) (ho : o.op = .store ty x y)
    (b of : Nat) (cells : Array Value) (hx : a.eval x = .pointer (some ⟨b, of, none⟩)) (hy : a.eval y = .agg cells)
    (ht : w.there b of cells.size) (hi : (Tryz.prog.info? ty).map (·.size) = some cells.size) (h1 : cells.all (·.oneCell') = true)
    (h : K (a.put o.dst undef) (w.setCells b of cells.toList)) : if Region.wanted o (yielded ops a.tmps) = true then Oper.wp Tryz.prog o a w K Q else E := by
  have hw : Region.wanted o (yielded ops a.tmps) = true := by simp [Region.wanted, hgd]
  rw [if_pos hw]
  exact wp_store_mid ty x y ho b of cells hx hy ht hi h1 h

set_option maxRecDepth 100000 in
set_option maxHeartbeats 4000000 in
theorem reachedIn_at (g yc : Nat) (code : List Tx.Ins) (hok : Lay.codeOk code = true) (w : World) (hrow : Row w g 0 code) :
    Calls Tryz.prog 93 #[.slice (some ⟨g, 0, none⟩) code.length yc] w fun e w' => e = .returned (.agg (chi 40 (rchB code)).toArray) ∧ Below w.heap.size w w' := by
  have hl40 := (Lay.ok_len hok).2
  have lg : g < w.heap.size := cell_lt (hrow 0 _ (ins_is (Lay.ok_len hok).1)).1
  have HR : Hid (Row w g 0 code) := hrow
  have HOK : Hid (Lay.codeOk code = true) := hok
  obtain ⟨W, hW⟩ : ∃ W, W = (w.alloc (.cells (chi 40 fun _ => false).toArray 132)).alloc (.cells (chi 40 fun _ => false).toArray 132) := ⟨_, rfl⟩
  have hwW : Below w.heap.size w W := by rw [hW]; exact ((Below.refl _ _).alloc (Nat.le_refl _) _).alloc (by simp) _
  have C0 : Hid (Cells W w.heap.size (chi 40 fun _ => false)) := by show Cells _ _ _; rw [hW]; exact (Cells.new w _ rfl _ _).alloc _
  have C1 : Hid (Cells W (w.heap.size + 1) (chi 40 fun _ => false)) := by show Cells _ _ _; rw [hW]; exact Cells.new (w.alloc _) _ (by simp) _ _
  have C1L : Hid (Cells ((w.alloc (.cells (chi 40 fun _ => false).toArray 132)).alloc (.cells (chi 40 fun _ => false).toArray 132)) (w.heap.size + 1) (chi 40 fun _ => false)) := Cells.new (w.alloc _) _ (by simp) _ _
  have HW : Hid (W = (w.alloc (.cells (chi 40 fun _ => false).toArray 132)).alloc (.cells (chi 40 fun _ => false).toArray 132)) := hW
  clear hW hrow hok
  have HCO : Hid (∀ v ∈ (chi 40 fun j => decide (j = 0)), v.oneCell' = true) := chi_one _ _
  go_enter Tryz.func93, Tryz.ntmps93
  go_wp2_with (first
    | (with_reducible refine wpList_alloc_chi rfl 132 rfl 40 zeroS ?_)
    | (with_reducible refine wpList_build_chi rfl 132 rfl 40 (by decide) Tryz.underlying132 zeroS ?_)
    | (with_reducible refine wpList_store_mid rfl 132 (.tmp 3) (.tmp 6) rfl (w.heap.size + 1) 0 (chi 40 fun j => decide (j = 0)).toArray (by simp [Act.eval, Act.put]) (by simp [Act.eval, Act.put]) (C1L.out.there (by simp [chi_len])) (by rw [infoS]; simp [chi_len]) (all_oneCell_toArray HCO.out) ?_))
  rw [← HW.out]
  clear HW C1L
  have D0 : Hid (Cells (W.setCells (w.heap.size + 1) 0 (chi 40 fun j => decide (j = 0))) w.heap.size (chi 40 fun _ => false)) := C0.out.putFar _ (by omega)
  have D1 : Hid (Cells (W.setCells (w.heap.size + 1) 0 (chi 40 fun j => decide (j = 0))) (w.heap.size + 1) (chi 40 fun j => decide (j = 0))) := C1.out.put (by rw [chi_len, chi_len])
  have hbD : Below w.heap.size w (W.setCells (w.heap.size + 1) 0 (chi 40 fun j => decide (j = 0))) := below_setCells (by omega) _ _ hwW
  clear C0 C1 hwW HCO
  generalize W.setCells (w.heap.size + 1) 0 (chi 40 fun j => decide (j = 0)) = X at *
  go_loopg [] 40 (fun n wr => ∃ P : Nat → Bool, Hid (40 ≤ cntS 40 P + n) ∧ Hid (P 0 = true ∧ ∀ j, P j = true → Rch code j) ∧ Hid (Cells wr w.heap.size (chi 40 fun _ => false)) ∧ Hid (Cells wr (w.heap.size + 1) (chi 40 P)) ∧ Below w.heap.size w wr)
  case atStart => exact ⟨fun j => decide (j = 0), Nat.le_add_left _ _, ⟨rfl, fun j hj => by rw [of_decide_eq_true hj]; exact .zero⟩, D0.out, D1.out, hbD⟩
  case round =>
    clear D0 D1 hbD
    obtain ⟨P, hn, hP, hc0, hc1, hb⟩ := hrel
    have hz : w.heap.size + 1 < wr.heap.size := hc1.out.lt' (by decide)
    obtain ⟨bb, hbb⟩ : ∃ bb, bb = wr.heap.size := ⟨_, rfl⟩
    have CB : Hid (Cells (wr.alloc (.cells (chi 40 fun _ => false).toArray 132)) wr.heap.size (chi 40 fun _ => false)) := Cells.new wr _ rfl _ _
    have B0 : Hid (Cells ((wr.alloc (.cells (chi 40 fun _ => false).toArray 132)).setCells wr.heap.size 0 (chi 40 P)) w.heap.size (chi 40 fun _ => false)) := (hc0.out.alloc _).putFar _ (by omega)
    have B1 : Hid (Cells ((wr.alloc (.cells (chi 40 fun _ => false).toArray 132)).setCells wr.heap.size 0 (chi 40 P)) (w.heap.size + 1) (chi 40 P)) := (hc1.out.alloc _).putFar _ (by omega)
    have BB : Hid (Cells ((wr.alloc (.cells (chi 40 fun _ => false).toArray 132)).setCells wr.heap.size 0 (chi 40 P)) wr.heap.size (chi 40 P)) := CB.out.put (by rw [chi_len, chi_len])
    have hbB : Below w.heap.size w ((wr.alloc (.cells (chi 40 fun _ => false).toArray 132)).setCells wr.heap.size 0 (chi 40 P)) := below_setCells (by omega) _ _ (hb.alloc hb.size _)
    have HPC : Hid (∀ v ∈ chi 40 P, v.oneCell' = true) := chi_one _ _
    go_wp2_with (first
      | (with_reducible refine wpList_alloc_chi rfl 132 rfl 40 zeroS ?_)
      | (with_reducible refine wpList_load_mid rfl 132 (.tmp 3) rfl (w.heap.size + 1) 0 (by simp [Act.eval]) (chi 40 P) _ hc1.out.range Tryz.underlying132 rfl (by rw [infoS, chi_len]) ?_)
      | (with_reducible refine wpList_store_mid rfl 132 (.tmp 4) (.tmp 7) rfl wr.heap.size 0 (chi 40 P).toArray (by simp [Act.eval, Act.put]) (by simp [Act.eval, Act.put]) (CB.out.there (by simp [chi_len])) (by rw [infoS]; simp [chi_len]) (all_oneCell_toArray HPC.out) ?_))
    generalize (wr.alloc (.cells (chi 40 fun _ => false).toArray 132)).setCells wr.heap.size 0 (chi 40 P) = Y at *
    rw [← hbb] at BB ⊢
    have hzb : w.heap.size + 1 < bb := by rw [hbb]; exact hz
    clear hbb hc0 hc1 hb CB HPC hz
    have HS0 : Hid (Swp9 code P P 0) := ⟨fun _ h => h, hP.out.2, hP.out.1, fun a ha => by omega⟩
    go_loopw [10] (fun i wr => ∃ (k : Nat) (Q : Nat → Bool), k ≤ code.length ∧ i = .int .i64 k ∧ Hid (Cells wr w.heap.size (chi 40 fun _ => false)) ∧ Hid (Cells wr (w.heap.size + 1) (chi 40 Q)) ∧ Hid (Cells wr bb (chi 40 P)) ∧ Hid (Swp9 code P Q k) ∧ Below w.heap.size w wr) (fun i _ => code.length - (intOf i).toNat)
    case atStart => exact ⟨0, P, Nat.zero_le _, rfl, B0.out, B1.out, BB.out, HS0.out, hbB⟩
    case round =>
      clear B0 B1 BB HS0 hbB
      obtain ⟨k, Q, hk, rfl, hc0, hc1, hcb, hsw, hb⟩ := hrel
      by_cases hlt : k < code.length
      · have hki : (k : Int) < (code.length : Int) := by omega
        have hk40 : (k : Int) < 40 := by omega
        obtain ⟨c0, _⟩ := hc1.out k _ (chi_at Q (by omega))
        cases hq : Q k
        · rw [hq] at c0
          have HSWN : Hid (Swp9 code P Q (k + 1)) := hsw.out.no hq
          clear hq hsw
          go_wp2
          go_roundw
          case rel => exact ⟨k + 1, Q, by omega, by go_num, hc0.out, hc1.out, hcb.out, HSWN.out, hb⟩
          case measure => simp [intOf]; omega
        · rw [hq] at c0
          have HSWY : Hid (Swp9 code P (fun j => Q j || nxB code k j) (k + 1)) := hsw.out.yes hq
          clear hq hsw
          go_wp2_with fail
          clear c0
          have hD0 : Below wr.heap.size wr wr.drew := (Below.refl _ _).drew
          refine wp_region_held_drew (S := fun _ => True) (by kernel_rfl) trivial (fun hHeld => ?_)
          generalize wr.drew = Q0 at hD0 hHeld ⊢
          refine wpAnyH_take (i := 1) (v := ?_) rfl (by kernel_rfl) (by kernel_rfl) (by kernel_rfl) (fun _ _ _ h => h) (Or.inl ⟨by rfl, ?_⟩) hHeld ?_
          rotate_left 1
          · intro w' hSw
            go_simp
            try with_reducible rfl
          simp only [Act.put]
          refine wpAnyH_take (i := 2) (v := ?_) rfl (by kernel_rfl) (by kernel_rfl) (by kernel_rfl) (fun _ _ _ h => h) (Or.inl ⟨by rfl, ?_⟩) hHeld ?_
          rotate_left 1
          · intro w' hSw
            go_simp
            try with_reducible rfl
          simp only [Act.put]
          refine wpAnyH_ready (rs := [0, 3]) (by kernel_rfl) (by simp) ?_
          refine AllReadyH.cons rfl (fun K hK => ?_) (AllReadyH.cons rfl (fun K hK => ?_) AllReadyH.nil)
          · refine stepLoad rfl 132 (.tmp 3) rfl (w.heap.size + 1) 0 (by simp [Act.eval]) (chi 40 Q) _ (hc1.out.on hD0).range Tryz.underlying132 rfl (by rw [infoS, chi_len]) ?_
            simp only [Act.put]
            refine hK.out _ _ trivial (fun hHeld => ?_)
            clear hK K
            refine wpAnyH_ready (rs := [3]) (by kernel_rfl) (by simp) ?_
            refine AllReadyH.cons rfl (fun K hK => ?_) AllReadyH.nil
            go_simp
            refine (nextsIn_at g yc code HOK.out k hlt Q0 (HR.out.on (below_over hb hD0))).mono ?_
            rintro e Q1 ⟨rfl, hq1⟩
            have hR1 : Below wr.heap.size wr Q1 := below_over hD0 hq1
            clear hq1
            dsimp only
            refine hK.out _ _ trivial (fun hHeld => ?_)
            clear hK K
            refine wpAnyH_ready (rs := [4]) (by kernel_rfl) (by simp) ?_
            refine AllReadyH.cons rfl (fun K hK => ?_) AllReadyH.nil
            go_simp
            refine (withS_at Q (nxB code k) Q1).mono ?_
            rintro e Q2 ⟨rfl, hq2⟩
            have hR2 : Below wr.heap.size wr Q2 := below_over hR1 hq2
            dsimp only
            refine hK.out _ _ trivial (fun hHeld => ?_)
            clear hK K
            have E0 : Hid (Cells Q2 w.heap.size (chi 40 fun _ => false)) := hc0.out.on hR2
            have E1 : Hid (Cells Q2 (w.heap.size + 1) (chi 40 Q)) := hc1.out.on hR2
            have EB : Hid (Cells Q2 bb (chi 40 P)) := hcb.out.on hR2
            have F0 : Hid (Cells (Q2.setCells (w.heap.size + 1) 0 (chi 40 fun j => Q j || nxB code k j)) w.heap.size (chi 40 fun _ => false)) := E0.out.putFar _ (by omega)
            have F1 : Hid (Cells (Q2.setCells (w.heap.size + 1) 0 (chi 40 fun j => Q j || nxB code k j)) (w.heap.size + 1) (chi 40 fun j => Q j || nxB code k j)) := E1.out.put (by rw [chi_len, chi_len])
            have FB : Hid (Cells (Q2.setCells (w.heap.size + 1) 0 (chi 40 fun j => Q j || nxB code k j)) bb (chi 40 P)) := EB.out.putFar _ (by omega)
            have hbF : Below w.heap.size w (Q2.setCells (w.heap.size + 1) 0 (chi 40 fun j => Q j || nxB code k j)) := below_setCells (by omega) _ _ (below_over hb hR2)
            refine wpAnyH_ready (rs := [5]) (by kernel_rfl) (by simp) ?_
            refine AllReadyH.cons rfl (fun K hK => ?_) AllReadyH.nil
            refine stepStore rfl 132 (.tmp 3) (.tmp 20) rfl (w.heap.size + 1) 0 (chi 40 fun j => Q j || nxB code k j).toArray (by simp [Act.eval]) (by simp [Act.eval]) (E1.out.there (by simp [chi_len])) (by rw [infoS]; simp [chi_len]) (all_oneCell_toArray (chi_one _ _)) ?_
            rw [List.toList_toArray]
            clear E0 E1 EB
            generalize Q2.setCells (w.heap.size + 1) 0 (chi 40 fun j => Q j || nxB code k j) = X at *
            simp only [Act.put]
            refine hK.out _ _ trivial (fun hHeld => ?_)
            clear hK K
            refine wpAnyH_done (by kernel_rfl) ?_ _
            clear hHeld hD0 hR1 hR2 hq2 hc0 hc1 hcb hb
            go_wp2
            go_roundw
            case rel => exact ⟨k + 1, _, by omega, by go_num, F0.out, F1.out, FB.out, HSWY.out, hbF⟩
            case measure => simp [intOf]; omega
          · go_simp
            refine (nextsIn_at g yc code HOK.out k hlt Q0 (HR.out.on (below_over hb hD0))).mono ?_
            rintro e Q1 ⟨rfl, hq1⟩
            have hR1 : Below wr.heap.size wr Q1 := below_over hD0 hq1
            clear hq1
            dsimp only
            refine hK.out _ _ trivial (fun hHeld => ?_)
            clear hK K
            refine wpAnyH_ready (rs := [0]) (by kernel_rfl) (by simp) ?_
            refine AllReadyH.cons rfl (fun K hK => ?_) AllReadyH.nil
            refine stepLoad rfl 132 (.tmp 3) rfl (w.heap.size + 1) 0 (by simp [Act.eval]) (chi 40 Q) _ (hc1.out.on hR1).range Tryz.underlying132 rfl (by rw [infoS, chi_len]) ?_
            simp only [Act.put]
            refine hK.out _ _ trivial (fun hHeld => ?_)
            clear hK K
            refine wpAnyH_ready (rs := [4]) (by kernel_rfl) (by simp) ?_
            refine AllReadyH.cons rfl (fun K hK => ?_) AllReadyH.nil
            go_simp
            refine (withS_at Q (nxB code k) Q1).mono ?_
            rintro e Q2 ⟨rfl, hq2⟩
            have hR2 : Below wr.heap.size wr Q2 := below_over hR1 hq2
            dsimp only
            refine hK.out _ _ trivial (fun hHeld => ?_)
            clear hK K
            have E0 : Hid (Cells Q2 w.heap.size (chi 40 fun _ => false)) := hc0.out.on hR2
            have E1 : Hid (Cells Q2 (w.heap.size + 1) (chi 40 Q)) := hc1.out.on hR2
            have EB : Hid (Cells Q2 bb (chi 40 P)) := hcb.out.on hR2
            have F0 : Hid (Cells (Q2.setCells (w.heap.size + 1) 0 (chi 40 fun j => Q j || nxB code k j)) w.heap.size (chi 40 fun _ => false)) := E0.out.putFar _ (by omega)
            have F1 : Hid (Cells (Q2.setCells (w.heap.size + 1) 0 (chi 40 fun j => Q j || nxB code k j)) (w.heap.size + 1) (chi 40 fun j => Q j || nxB code k j)) := E1.out.put (by rw [chi_len, chi_len])
            have FB : Hid (Cells (Q2.setCells (w.heap.size + 1) 0 (chi 40 fun j => Q j || nxB code k j)) bb (chi 40 P)) := EB.out.putFar _ (by omega)
            have hbF : Below w.heap.size w (Q2.setCells (w.heap.size + 1) 0 (chi 40 fun j => Q j || nxB code k j)) := below_setCells (by omega) _ _ (below_over hb hR2)
            refine wpAnyH_ready (rs := [5]) (by kernel_rfl) (by simp) ?_
            refine AllReadyH.cons rfl (fun K hK => ?_) AllReadyH.nil
            refine stepStore rfl 132 (.tmp 3) (.tmp 20) rfl (w.heap.size + 1) 0 (chi 40 fun j => Q j || nxB code k j).toArray (by simp [Act.eval]) (by simp [Act.eval]) (E1.out.there (by simp [chi_len])) (by rw [infoS]; simp [chi_len]) (all_oneCell_toArray (chi_one _ _)) ?_
            rw [List.toList_toArray]
            clear E0 E1 EB
            generalize Q2.setCells (w.heap.size + 1) 0 (chi 40 fun j => Q j || nxB code k j) = X at *
            simp only [Act.put]
            refine hK.out _ _ trivial (fun hHeld => ?_)
            clear hK K
            refine wpAnyH_done (by kernel_rfl) ?_ _
            clear hHeld hD0 hR1 hR2 hq2 hc0 hc1 hcb hb
            go_wp2
            go_roundw
            case rel => exact ⟨k + 1, _, by omega, by go_num, F0.out, F1.out, FB.out, HSWY.out, hbF⟩
            case measure => simp [intOf]; omega
      · obtain rfl : k = code.length := by omega
        have hki : ¬ (code.length : Int) < (code.length : Int) := by omega
        have heq := run_equal_chi Tryz.underlying132 Q P wr
        cases ha : alike 40 Q P
        · rw [ha] at heq
          have HLT : Hid (cntS 40 P < cntS 40 Q ∧ cntS 40 Q ≤ 40) := ⟨cnt_lt (fun j _ => hsw.out.up j) ha, cnt_le _ _⟩
          have HQ : Hid (Q 0 = true ∧ ∀ j, Q j = true → Rch code j) := ⟨hsw.out.up 0 hsw.out.zero, hsw.out.sub⟩
          clear ha hsw
          go_wp2_with (first
            | (with_reducible refine wpList_load_mid rfl 132 (.tmp 3) rfl (w.heap.size + 1) 0 (by simp [Act.eval, Act.put]) (chi 40 Q) _ hc1.out.range Tryz.underlying132 rfl (by rw [infoS, chi_len]) ?_)
            | (with_reducible refine wpList_load_mid rfl 132 (.tmp 4) rfl bb 0 (by simp [Act.eval, Act.put]) (chi 40 P) _ hcb.out.range Tryz.underlying132 rfl (by rw [infoS, chi_len]) ?_))
          go_roundg (gk - 1)
          case measure => have := HLT.out; have := hn.out; omega
          case rel => exact ⟨Q, by show _ ≤ _; have := HLT.out; have := hn.out; omega, HQ.out, hc0.out, hc1.out, hb⟩
        · rw [ha] at heq
          have HEND : Hid (chi 40 Q = chi 40 (rchB code)) := hsw.out.ends HOK.out ha
          clear ha hsw
          have HC1 : Hid (Cells wr (w.heap.size + 1) (chi 40 (Q))) := hc1.out
          clear hc1
          have HCL : Hid ((chi 40 (Q)).length = 40) := chi_len _ _
          have HCO : Hid (∀ v ∈ chi 40 (Q), v.oneCell' = true) := chi_one _ _
          have HC2 : Hid (Cells (wr.setCells w.heap.size 0 (chi 40 (Q))) w.heap.size (chi 40 (Q))) := hc0.out.put (by rw [chi_len, chi_len])
          have hb2 : Below w.heap.size w (wr.setCells w.heap.size 0 (chi 40 (Q))) := below_setCells (Nat.le_refl _) _ _ hb
          clear hb
          generalize hcs : chi 40 (Q) = cs at *
          have HCS : Hid (chi 40 (Q) = cs) := hcs
          clear hcs
          go_wp2_with (first
            | (with_reducible refine wpList_load_mid rfl 132 (.tmp 3) rfl (w.heap.size + 1) 0 (by simp [Act.eval]) cs _ HC1.out.range Tryz.underlying132 rfl (by rw [infoS, HCL.out]) ?_)
            | (with_reducible refine wpList_load_mid rfl 132 (.tmp 4) rfl bb 0 (by simp [Act.eval, Act.put]) (chi 40 P) _ hcb.out.range Tryz.underlying132 rfl (by rw [infoS, chi_len]) ?_)
            | (with_reducible refine wpList_store_mid rfl 132 (.tmp 2) (.tmp 25) rfl w.heap.size 0 cs.toArray (by simp [Act.eval, Act.put]) (by simp [Act.eval, Act.put]) (hc0.out.there (by rw [chi_len]; simpa using HCL.out)) (by rw [infoS]; simpa using HCL.out.symm) (all_oneCell_toArray HCO.out) ?_))
          (try simp only [Exit.inBlock, Exit.then])
          refine bodyPost_ret (ret_cell rfl rfl HC2.out.range Tryz.underlying132 rfl (by rw [infoS, HCL.out])) rfl ?_
          exact ⟨by rw [HEND.out], hb2⟩
end Pg
end Go.Proofs.YtinanjjhkddikaaGreat

/- Contracts: what is reached: both sides' Reached. -/
namespace Go.Proofs.YtinanjjhkddikaaGreat
namespace Pg
open Go.ChangeShapes Go.WideShapes Go.ChangeAt Go.RowKit St

theorem rise_sub : ∀ (r l : List Int), Rise l → Rise r → (∀ x ∈ l, x ∈ r) → l.Sublist r
  | _, [], _, _, _ => List.nil_sublist _
  | [], x :: l, _, _, h => absurd (h x List.mem_cons_self) (by simp)
  | y :: r, x :: l, hl, hr, h => by
    obtain ⟨a1, b1⟩ := List.pairwise_cons.1 hl
    obtain ⟨a2, b2⟩ := List.pairwise_cons.1 hr
    rcases List.mem_cons.1 (h x List.mem_cons_self) with e | e
    · subst e
      refine List.Sublist.cons_cons x (rise_sub r l b1 b2 fun z hz => ?_)
      rcases List.mem_cons.1 (h z (List.mem_cons_of_mem _ hz)) with e | e
      · have := a1 z hz; omega
      · exact e
    · have hyx := a2 x e
      refine (rise_sub r (x :: l) hl b2 fun z hz => ?_).cons y
      rcases List.mem_cons.1 (h z hz) with e' | e'
      · rcases List.mem_cons.1 hz with e2 | e2
        · omega
        · have := a1 z e2; omega
      · exact e'
theorem rise_len : ∀ (l : List Int) (a b : Int), Rise l → (∀ x ∈ l, a ≤ x ∧ x < b) → a ≤ b → (l.length : Int) ≤ b - a
  | [], a, b, _, _, hab => by simp; omega
  | x :: l, a, b, h, hx, _ => by
    obtain ⟨h1, h2⟩ := List.pairwise_cons.1 h
    have hxx := hx x List.mem_cons_self
    have := rise_len l (x + 1) b h2 (fun z hz => ⟨by have := h1 z hz; omega, (hx z (List.mem_cons_of_mem _ hz)).2⟩) (by omega)
    simp only [List.length_cons]
    omega
theorem put_take : ∀ {l : List Int} {n x : Int} {i : Nat}, Rise l → x ∈ (putL l n).take i → x ∈ l.take i ∨ (x = n ∧ n ∉ l)
  | [], n, x, i, _, h => by
    have := List.mem_of_mem_take h
    simp [putL] at this
    exact .inr ⟨this, by simp⟩
  | y :: l, n, x, 0, _, h => by simp at h
  | y :: l, n, x, i + 1, hr, h => by
    obtain ⟨h1, h2⟩ := List.pairwise_cons.1 hr
    unfold putL at h
    split at h
    · rename_i hy
      rw [List.take_succ_cons, List.mem_cons] at h
      rw [List.take_succ_cons, List.mem_cons, List.mem_cons]
      rcases h with h | h
      · exact .inl (.inl h)
      · rcases put_take h2 h with h | ⟨h, h'⟩
        · exact .inl (.inr h)
        · refine .inr ⟨h, fun e => ?_⟩
          rcases e with e | e
          · omega
          · exact h' e
    · split at h
      · exact .inl h
      · rename_i hy1 hy2
        rw [List.take_succ_cons, List.mem_cons] at h
        rcases h with h | h
        · refine .inr ⟨h, fun e => ?_⟩
          rcases List.mem_cons.1 e with e | e
          · omega
          · have := h1 n e; omega
        · exact .inl ((List.take_subset_take_left (y :: l) (Nat.le_succ i)) h)
theorem puts_take : ∀ (m : List Int) {l : List Int} {x : Int} {i : Nat}, Rise l → x ∈ (m.foldl putL l).take i → x ∈ l.take i ∨ x ∉ l
  | [], l, x, i, _, h => .inl h
  | n :: m, l, x, i, hr, h => by
    rw [List.foldl_cons] at h
    rcases puts_take m (putL_rise hr n) h with h | h
    · rcases put_take hr h with h | ⟨h, h'⟩
      · exact .inl h
      · rw [h]; exact .inr h'
    · exact .inr fun e => h (mem_putL.2 (.inl e))
theorem putL_ge (n : Int) : ∀ l : List Int, l.length ≤ (putL l n).length
  | [] => by simp [putL]
  | y :: l => by
    have := putL_ge n l
    unfold putL
    split
    · simp only [List.length_cons]; omega
    · split <;> simp
theorem puts_ge : ∀ (m l : List Int), l.length ≤ (m.foldl putL l).length
  | [], _ => Nat.le_refl _
  | n :: m, l => Nat.le_trans (putL_ge n l) (puts_ge m (putL l n))
/-- Where the specification stands: a list of some that are reached. -/
structure StR (code : List Tx.Ins) (out : List Int) : Prop where
  rise : Rise out
  zero : (0 : Int) ∈ out
  sub : ∀ x ∈ out, ∃ j : Nat, Rch code j ∧ x = (j : Int)
def ClosedL (code : List Tx.Ins) (out : List Int) : Prop := ∀ a : Nat, (a : Int) ∈ out → ∀ j, nxB code a j = true → (j : Int) ∈ out
structure MidR (code : List Tx.Ins) (o out : List Int) (i : Nat) : Prop where
  st : StR code out
  up : ∀ x ∈ o, x ∈ out
  done : ∀ a : Nat, (a : Int) ∈ o → (a : Int) ∈ out.take i → ∀ j, nxB code a j = true → (j : Int) ∈ out
theorem StR.len {code : List Tx.Ins} (hok : Lay.codeOk code = true) {out : List Int} (h : StR code out) : out.length ≤ code.length := by
  have := rise_len out 0 code.length h.rise (fun x hx => by
    obtain ⟨j, hj, rfl⟩ := h.sub x hx
    have := hj.lt (Lay.ok_len hok).1
    omega) (by omega)
  omega
theorem StR.start (code : List Tx.Ins) : StR code [0] := ⟨by simp, by simp, fun x hx => ⟨0, .zero, by simpa using hx⟩⟩
theorem MidR.start {code : List Tx.Ins} {out : List Int} (h : StR code out) : MidR code out out 0 := ⟨h, fun _ h => h, fun a _ h => by simp at h⟩
theorem MidR.step {code : List Tx.Ins} (hok : Lay.codeOk code = true) {o out : List Int} {i : Nat} (h : MidR code o out i) (hi : i < out.length) {c : Nat} (hc : out[i] = (c : Int)) :
    MidR code o ((nextsF code c).foldl putL out) (i + 1) := by
  have hcm : (c : Int) ∈ out := by rw [← hc]; exact List.getElem_mem hi
  obtain ⟨c', hrc, he⟩ := h.st.sub _ hcm
  obtain rfl : c = c' := by omega
  have hcl := hrc.lt (Lay.ok_len hok).1
  obtain ⟨hr, hm⟩ := foldl_put (nextsF code c) out h.st.rise
  refine ⟨⟨hr, (hm 0).2 (.inr h.st.zero), fun x hx => ?_⟩, fun x hx => (hm x).2 (.inr (h.up x hx)), fun a ha ht j hj => ?_⟩
  · rcases (hm x).1 hx with hx | hx
    · obtain ⟨j, h1, rfl⟩ := (nextsF_mem hok hcl x).1 hx
      exact ⟨j, .step hrc h1, rfl⟩
    · exact h.st.sub x hx
  · rcases puts_take _ h.st.rise ht with ht | ht
    · rw [List.take_succ_eq_append_getElem hi, List.mem_append, List.mem_singleton] at ht
      rcases ht with ht | ht
      · exact (hm _).2 (.inr (h.done a ha ht j hj))
      · rw [hc] at ht
        obtain rfl : a = c := by omega
        exact (hm _).2 (.inl ((nextsF_mem hok hcl _).2 ⟨j, hj, rfl⟩))
    · exact absurd (h.up _ ha) ht
theorem closed_all {code : List Tx.Ins} {out : List Int} (h : StR code out) (hc : ClosedL code out) {j : Nat} (hj : Rch code j) : (j : Int) ∈ out :=
  Rch.least (S := fun j => (j : Int) ∈ out) h.zero hc hj
/-- A round more. -/
theorem MidR.ends {code : List Tx.Ins} {o out : List Int} {i k : Nat} (h : MidR code o out i) (hi : ¬ i < out.length) (hs : StR code o) (hk : ClosedL code o ∨ k < o.length) : ClosedL code out ∨ k + 1 < out.length := by
  have hsub := rise_sub out o hs.rise h.st.rise h.up
  have hle := hsub.length_le
  have hdone : ∀ a : Nat, (a : Int) ∈ o → ∀ j, nxB code a j = true → (j : Int) ∈ out := fun a ha j hj => h.done a ha (by rw [List.take_of_length_le (by omega)]; exact h.up _ ha) j hj
  rcases Nat.lt_or_ge o.length out.length with hl | hl
  · rcases hk with hk | hk
    · left
      intro a ha j hj
      obtain ⟨a', hra, e⟩ := h.st.sub _ ha
      obtain rfl : a = a' := by omega
      exact h.up _ (closed_all hs hk (.step hra hj))
    · right; omega
  · have e := hsub.eq_of_length (by omega)
    left
    intro a ha
    exact hdone a (by rw [e]; exact ha)
theorem StR.ends {code : List Tx.Ins} (hok : Lay.codeOk code = true) {out : List Int} (h : StR code out) (hc : ClosedL code out ∨ code.length < out.length) : out = risL (rchB code) 40 := by
  have hl := Lay.ok_len hok
  have hcl : ClosedL code out := by
    rcases hc with hc | hc
    · exact hc
    · have := h.len hok; omega
  refine rise_ext h.rise (risL_rise _ _) fun x => ?_
  rw [risL_mem]
  constructor
  · intro hx
    obtain ⟨j, hj, rfl⟩ := h.sub x hx
    exact ⟨j, by have := hj.lt hl.1; omega, rchB_iff.2 hj, rfl⟩
  · rintro ⟨j, _, hj, rfl⟩
    exact closed_all h hcl (rchB_iff.1 hj)
set_option maxRecDepth 100000 in
set_option maxHeartbeats 4000000 in
theorem l9Reached_at (g yc : Nat) (code : List Tx.Ins) (hok : Lay.codeOk code = true) (w : World) (hrow : Row w g 0 code) :
    Calls Tryz.prog 44 #[.slice (some ⟨g, 0, none⟩) code.length yc] w fun e w' => ∃ v, e = .returned v ∧ Lst w' v (risL (rchB code) 40) ∧ Below w.heap.size w w' := by
  have hl40 := (Lay.ok_len hok).2
  have lg : g < w.heap.size := cell_lt (hrow 0 _ (ins_is (Lay.ok_len hok).1)).1
  have HR : Hid (Row w g 0 code) := hrow
  have HOK : Hid (Lay.codeOk code = true) := hok
  have HG0 : Hid (Lst (w.alloc (.cells #[.int .i64 0] 2)) (.slice (some ⟨w.heap.size, 0, none⟩) 1 1) [0]) := (grow_lit1 w 0).lst
  have hb0 : Below w.heap.size w (w.alloc (.cells #[.int .i64 0] 2)) := (Below.refl _ _).alloc (Nat.le_refl _) _
  clear hrow hok
  go_enter Tryz.func44, Tryz.ntmps44
  go_wp2_with fail
  go_loopw [3, 4] (fun v i wr => ∃ (k : Nat) (out : List Int), k ≤ code.length ∧ i = .int .i64 k ∧ Hid (StR code out) ∧ Hid (ClosedL code out ∨ k < out.length) ∧ Hid (Lst wr v out) ∧ Below w.heap.size w wr) (fun _ i _ => code.length - (intOf i).toNat)
  case atStart => exact ⟨0, [0], Nat.zero_le _, rfl, StR.start code, .inr (by simp), HG0.out, hb0⟩
  case round =>
    clear HG0 hb0
    obtain ⟨k, o, hk, rfl, hst, hcl, hls, hb⟩ := hrel
    obtain ⟨gv, cv, rfl⟩ := hls.out.form
    by_cases hlt : k < code.length
    · have hki : (k : Int) < (code.length : Int) := by omega
      go_wp2_with fail
      go_loopw [3, 5] (fun v i wr => ∃ (q : Nat) (out : List Int), q ≤ out.length ∧ i = .int .i64 q ∧ Hid (MidR code o out q) ∧ Hid (Lst wr v out) ∧ Below w.heap.size w wr) (fun _ i _ => 41 - (intOf i).toNat)
      case atStart => exact ⟨0, o, Nat.zero_le _, rfl, MidR.start hst.out, hls.out, hb⟩
      case round =>
        clear hls hb
        obtain ⟨q, out, hq, rfl, hmid, hls, hb⟩ := hrel
        have hlo := hmid.out.st.len HOK.out
        by_cases hqt : q < out.length
        · have hqi : (q : Int) < (out.length : Int) := by omega
          obtain ⟨gw, cw, rfl, hcw, hgw, hrw⟩ := hls.out
          have c0 := hrw q _ (List.getElem?_eq_getElem hqt)
          rw [Nat.zero_add] at c0
          obtain ⟨c, hrc, hce⟩ := hmid.out.st.sub _ (List.getElem_mem hqt)
          have hcc : c < code.length := hrc.lt (Lay.ok_len HOK.out).1
          have HMN : Hid (MidR code o ((nextsF code c).foldl putL out) (q + 1)) := hmid.out.step HOK.out hqt hce
          rw [hce] at c0
          clear hce hrw hrc hmid
          go_wp2_with fail
          refine (l9Nexts_at g yc code (by omega) c hcc wr (HR.out.on hb)).mono ?_
          rintro e w2 ⟨v2, rfl, hls2, hb2⟩
          obtain ⟨gn, cn, rfl, hcn, hgn, hrn⟩ := hls2
          have HLO : Hid (Lst w2 (.slice (some ⟨gw, 0, none⟩) out.length cw) out) := hls.out.on hb2
          have HRN : Hid (IRow w2 gn 0 (nextsF code c)) := hrn
          have hw2 : Below w.heap.size w w2 := below_over hb hb2
          have hn40 : (nextsF code c).length ≤ 41 := by rw [nexts_ris HOK.out hcc]; have := risL_len (nxB code c) 40; omega
          clear hb2 hrn hls hb c0 hcw hgw
          generalize nextsF code c = ns at *
          go_wp2_with fail
          go_loopw [3, 7] (fun v i wr => ∃ (m : Nat), m ≤ ns.length ∧ i = .int .i64 m ∧ Hid (Lst wr v ((ns.take m).foldl putL out)) ∧ Below w2.heap.size w2 wr) (fun _ i _ => ns.length - (intOf i).toNat)
          case atStart => exact ⟨0, Nat.zero_le _, rfl, HLO.out, Below.refl _ _⟩
          case round =>
            clear HLO
            obtain ⟨m, hm, rfl, hls, hb⟩ := hrel
            by_cases hmt : m < ns.length
            · have hmi : (m : Int) < (ns.length : Int) := by omega
              have c0 := (HRN.out.on hb) m _ (List.getElem?_eq_getElem hmt)
              rw [Nat.zero_add] at c0
              have HFO : Hid ((ns.take (m + 1)).foldl putL out = putL ((ns.take m).foldl putL out) ns[m]) := by
                show _ = _
                rw [List.take_succ_eq_append_getElem hmt, List.foldl_append]; rfl
              have hfl := foldl_put_len (ns.take m) out
              rw [List.length_take] at hfl
              obtain ⟨gq, cq, rfl⟩ := hls.out.form
              generalize ns[m] = y at *
              generalize (ns.take m).foldl putL out = cur at *
              go_wp2_with fail
              refine (l1Put cur (.slice (some ⟨gq, 0, none⟩) cur.length cq) y (by omega) wr hls.out).mono ?_
              rintro e w3 ⟨v3, rfl, hl3, hb3⟩
              have hw3 : Below w2.heap.size w2 w3 := below_over hb hb3
              have HL3 : Hid (Lst w3 v3 ((ns.take (m + 1)).foldl putL out)) := by show Lst _ _ _; rw [HFO.out]; exact hl3
              clear hl3 hb3 hls hb c0 HFO
              go_wp2
              go_roundw
              case rel => exact ⟨m + 1, by omega, by go_num, HL3.out, hw3⟩
              case measure => simp [intOf]; omega
            · have hmi : ¬ (m : Int) < (ns.length : Int) := by omega
              have HTK : Hid (ns.take m = ns) := List.take_of_length_le (by omega)
              have HLE := hls.out
              rw [HTK.out] at HLE
              have HLF : Hid (Lst wr _ (ns.foldl putL out)) := HLE
              have hbF : Below w.heap.size w wr := below_over hw2 hb
              have HQL : Hid (q + 1 ≤ (ns.foldl putL out).length) := by
                show _ ≤ _
                have := puts_ge ns out
                omega
              clear HLE hls hb HTK
              go_wp2
              go_roundw
              case rel => exact ⟨q + 1, _, HQL.out, by go_num, HMN.out, HLF.out, hbF⟩
              case measure => simp [intOf]; omega
        · have hqi : ¬ (q : Int) < (out.length : Int) := by omega
          have HNX : Hid (ClosedL code out ∨ k + 1 < out.length) := hmid.out.ends hqt hst.out hcl.out
          have HST : Hid (StR code out) := hmid.out.st
          obtain ⟨gw, cw, rfl⟩ := hls.out.form
          clear hmid
          go_wp2
          go_roundw
          case rel => exact ⟨k + 1, out, by omega, by go_num, HST.out, HNX.out, hls.out, hb⟩
          case measure => simp [intOf]; omega
    · obtain rfl : k = code.length := by omega
      have hki : ¬ (code.length : Int) < (code.length : Int) := by omega
      have HE : Hid (o = risL (rchB code) 40) := hst.out.ends HOK.out hcl.out
      clear hst hcl
      go_wp2
      go_ret
      exact ⟨_, rfl, by rw [← HE.out]; exact hls.out, hb⟩
end Pg
end Go.Proofs.YtinanjjhkddikaaGreat

/- Who is above whom, as plain functions of a program. -/
namespace Go.Proofs.YtinanjjhkddikaaGreat
namespace Pg
open Go.ChangeShapes Go.WideShapes Go.ChangeAt Go.RowKit St

/-- A class, its Super, and so on. -/
def upF (p : Prg) : Nat → Int → List Int
  | 0, _ => []
  | f + 1, c => if c < 0 then [] else match p[c.toNat]? with | none => [] | some k => c :: upF p f k.super
def upL (p : Prg) (c : Int) : List Int := upF p 6 c
theorem upF_neg (p : Prg) (f : Nat) {c : Int} (h : c < 0) : upF p f c = [] := by
  cases f with
  | zero => rfl
  | succ f => simp [upF, h]
theorem upL_neg (p : Prg) {c : Int} (h : c < 0) : upL p c = [] := upF_neg p 6 h
theorem upF_fuel {p : Prg} {n : Nat} (hs : SupOk p n) : ∀ (f g : Nat) (up : Int), up < (n : Int) → up < (f : Int) → up < (g : Int) → upF p f up = upF p g up := by
  intro f
  induction f with
  | zero => intro g up _ h1 _; rw [upF_neg _ _ (by omega), upF_neg _ _ (by omega)]
  | succ f ih =>
    intro g up hn h1 h2
    by_cases h0 : up < 0
    · rw [upF_neg _ _ h0, upF_neg _ _ h0]
    · cases g with
      | zero => omega
      | succ g =>
        simp only [upF, h0, if_false]
        cases hc : p[up.toNat]? with
        | none => rfl
        | some c =>
          have := hs up.toNat c (by omega) hc
          simp only []
          rw [ih g c.super (by omega) (by omega) (by omega)]
theorem upL_step {p : Prg} {n : Nat} (hs : SupOk p n) {u : Nat} (hu : u < n) (h6 : u < 6) {c : Cls} (hc : p[u]? = some c) : upL p (u : Int) = (u : Int) :: upL p c.super := by
  have h0 : ¬ (u : Int) < 0 := by omega
  have := hs u c hu hc
  have e : upF p 5 c.super = upF p 6 c.super := upF_fuel hs 5 6 c.super (by omega) (by omega) (by omega)
  show (if (u : Int) < 0 then [] else match p[(u : Int).toNat]? with | none => [] | some k => (u : Int) :: upF p 5 k.super) = _
  rw [if_neg h0, Int.toNat_natCast, hc]
  simp only []
  rw [e]
  rfl
theorem upF_len (p : Prg) : ∀ (f : Nat) (c : Int), (upF p f c).length ≤ f := by
  intro f
  induction f with
  | zero => intro c; simp [upF]
  | succ f ih =>
    intro c
    simp only [upF]
    split
    · simp
    · split
      · simp
      · simp only [List.length_cons]; have := ih ‹Cls›.super; omega
theorem upL_len (p : Prg) (c : Int) : (upL p c).length ≤ 6 := upF_len p 6 c
theorem upF_mem {p : Prg} : ∀ (f : Nat) (c x : Int), x ∈ upF p f c → 0 ≤ x ∧ x < (p.length : Int) := by
  intro f
  induction f with
  | zero => intro c x h; simp [upF] at h
  | succ f ih =>
    intro c x h
    simp only [upF] at h
    split at h
    · simp at h
    · split at h
      · simp at h
      · rename_i hc k hk
        rcases List.mem_cons.1 h with rfl | h
        · have := (List.getElem?_eq_some_iff.1 hk).1; omega
        · exact ih _ _ h
theorem upL_mem {p : Prg} {c x : Int} (h : x ∈ upL p c) : 0 ≤ x ∧ x < (p.length : Int) := upF_mem 6 c x h
theorem upF_le {p : Prg} (hs : SupOk p p.length) : ∀ (f : Nat) (c x : Int), x ∈ upF p f c → x ≤ c := by
  intro f
  induction f with
  | zero => intro c x h; simp [upF] at h
  | succ f ih =>
    intro c x h
    simp only [upF] at h
    split at h
    · simp at h
    · split at h
      · simp at h
      · rename_i hc k hk
        have h1 := (List.getElem?_eq_some_iff.1 hk).1
        have h2 := hs _ k h1 hk
        rcases List.mem_cons.1 h with rfl | h
        · exact Int.le_refl _
        · have := ih _ _ h; omega
theorem upL_le {p : Prg} (hs : SupOk p p.length) {c x : Int} (h : x ∈ upL p c) : x ≤ c := upF_le hs 6 c x h
theorem upL_self {p : Prg} (hs : SupOk p p.length) (h6 : p.length ≤ 6) {u : Nat} (hu : u < p.length) : (u : Int) ∈ upL p (u : Int) := by
  rw [upL_step hs hu (by omega) (List.getElem?_eq_getElem hu)]; exact List.mem_cons_self

/-- Is b above a (or a itself)? -/
def undB (p : Prg) (a b : Int) : Bool := decide (b ∈ upL p a)
/-- The first one above a that is above b. -/
def lowF (p : Prg) (a b : Int) : Int := ((upL p a).find? fun x => undB p b x).getD (-1)
/-- Has the class of this number a method of its own with this name? -/
def hasM (p : Prg) (name : Int) (x : Int) : Bool := match p[x.toNat]? with | none => false | some c => (ownF c name).isSome
def selF (p : Prg) (c name : Int) : Int := ((upL p c).find? (hasM p name)).getD (-1)
def allC (p : Prg) : List Int := (List.range p.length).map fun k : Nat => (k : Int)
/-- All that are under a class, rising. -/
def downL (p : Prg) (c : Int) : List Int := (allC p).filter fun i => undB p i c
def targL (p : Prg) (c name : Int) : List Int := (((downL p c).map fun i => selF p i name).filter fun s => decide (0 ≤ s)).foldl putL []

theorem find_step {α : Type} (f : α → Bool) (x : α) (l : List α) : (x :: l).find? f = if f x then some x else l.find? f := by
  rw [List.find?_cons]; cases f x <;> rfl
end Pg
end Go.Proofs.YtinanjjhkddikaaGreat

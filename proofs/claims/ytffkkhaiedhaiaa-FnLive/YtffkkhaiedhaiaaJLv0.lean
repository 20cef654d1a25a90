/- Contracts: what is reached, on both sides. -/
import Derived.Test.YtffkkhaiedhaiaaJNx4
import Derived.Deep.LoopGhost
import Derived.Deep.RegionHeld3
import Derived.Test.YtffkkhaiedhaiaaJLo0
import Derived.Laws.BitsLemmas
namespace Go.Proofs.Ytffkkhaiedhaiaa
namespace Pg
open Go.ChangeShapes Go.WideShapes Go.ChangeAt Go.RowKit St

inductive Rch (code : List Tx.Ins) : Nat → Prop
  | zero : Rch code 0
  | step {a j : Nat} : Rch code a → nxB code a j = true → Rch code j
open Classical in
noncomputable def rchB (code : List Tx.Ins) (j : Nat) : Bool := decide (Rch code j)
theorem rchB_iff {code : List Tx.Ins} {j : Nat} : rchB code j = true ↔ Rch code j := by simp [rchB]
theorem nxB_lt {code : List Tx.Ins} {a j : Nat} (h : nxB code a j = true) : j < code.length := by
  unfold nxB at h
  simp only [Bool.and_eq_true, decide_eq_true_eq] at h
  exact h.2
theorem Rch.lt {code : List Tx.Ins} (h0 : 0 < code.length) {j : Nat} (h : Rch code j) : j < code.length := by
  cases h with
  | zero => exact h0
  | step _ h => exact nxB_lt h
theorem Rch.least {code : List Tx.Ins} {S : Nat → Prop} (h0 : S 0) (hs : ∀ a, S a → ∀ j, nxB code a j = true → S j) {j : Nat} (h : Rch code j) : S j := by
  induction h with
  | zero => exact h0
  | step _ h ih => exact hs _ ih _ h

def cntS (n : Nat) (P : Nat → Bool) : Nat := (List.range n).countP P
theorem cnt_le (n : Nat) (P : Nat → Bool) : cntS n P ≤ n := by
  have := List.countP_le_length (p := P) (l := List.range n)
  simpa [cntS] using this
theorem cnt_succ (n : Nat) (P : Nat → Bool) : cntS (n + 1) P = cntS n P + (if P n then 1 else 0) := by
  unfold cntS
  rw [List.range_succ, List.countP_append]
  cases h : P n <;> simp [h]
theorem cnt_mono {P Q : Nat → Bool} : ∀ {n : Nat}, (∀ j, j < n → P j = true → Q j = true) → cntS n P ≤ cntS n Q
  | 0, _ => by simp [cntS]
  | n + 1, h => by
    have ih := cnt_mono (n := n) fun j hj => h j (by omega)
    rw [cnt_succ, cnt_succ]
    cases hp : P n
    · simp; omega
    · rw [h n (by omega) hp]; simp; omega
theorem cnt_lt {P Q : Nat → Bool} : ∀ {n : Nat}, (∀ j, j < n → P j = true → Q j = true) → alike n Q P = false → cntS n P < cntS n Q
  | 0, _, h => by simp [alike] at h
  | n + 1, h, hne => by
    rw [cnt_succ, cnt_succ]
    cases ha : alike n Q P
    · have ih := cnt_lt (n := n) (fun j hj => h j (by omega)) ha
      cases hp : P n
      · simp; omega
      · rw [h n (by omega) hp]; simp; omega
    · have hm := cnt_mono (n := n) fun j hj => h j (by omega)
      have hdiff : Q n ≠ P n := by
        intro e
        have : alike (n + 1) Q P = true := alike_iff.2 fun j hj => by
          rcases Nat.lt_or_ge j n with h1 | h1
          · exact alike_iff.1 ha j h1
          · rw [show j = n by omega]; exact e
        rw [this] at hne; simp at hne
      cases hp : P n
      · cases hq : Q n
        · rw [hp, hq] at hdiff; simp at hdiff
        · simp; omega
      · rw [h n (by omega) hp, hp] at hdiff; simp at hdiff
/-- Where the program stands in a round: P what was there when it began, Q by now. -/
structure Swp9 (code : List Tx.Ins) (P Q : Nat → Bool) (k : Nat) : Prop where
  up : ∀ j, P j = true → Q j = true
  sub : ∀ j, Q j = true → Rch code j
  zero : P 0 = true
  done : ∀ a, a < k → P a = true → ∀ j, nxB code a j = true → Q j = true
theorem Swp9.yes {code : List Tx.Ins} {P Q : Nat → Bool} {k : Nat} (h : Swp9 code P Q k) (hk : Q k = true) : Swp9 code P (fun j => Q j || nxB code k j) (k + 1) :=
  ⟨fun j hj => by rw [h.up j hj, Bool.true_or], fun j hj => by
    rw [Bool.or_eq_true] at hj
    rcases hj with hj | hj
    · exact h.sub j hj
    · exact .step (h.sub k hk) hj, h.zero, fun a ha hp j hj => by
    rcases Nat.lt_or_ge a k with h1 | h1
    · rw [h.done a h1 hp j hj, Bool.true_or]
    · rw [show a = k by omega] at hj
      rw [hj, Bool.or_true]⟩
theorem Swp9.no {code : List Tx.Ins} {P Q : Nat → Bool} {k : Nat} (h : Swp9 code P Q k) (hk : Q k = false) : Swp9 code P Q (k + 1) :=
  ⟨h.up, h.sub, h.zero, fun a ha hp j hj => by
    rcases Nat.lt_or_ge a k with h1 | h1
    · exact h.done a h1 hp j hj
    · rw [show a = k by omega] at hp
      rw [h.up k hp] at hk; simp at hk⟩
theorem Swp9.ends {code : List Tx.Ins} (hok : Lay.codeOk code = true) {P Q : Nat → Bool} (h : Swp9 code P Q code.length) (ha : alike 40 Q P = true) : chi 40 Q = chi 40 (rchB code) := by
  have hl := Lay.ok_len hok
  refine chi_congr fun j hj => ?_
  rw [Bool.eq_iff_iff, rchB_iff]
  refine ⟨h.sub j, fun hr => ?_⟩
  have key : Q j = true ∧ j < code.length := by
    refine Rch.least (S := fun j => Q j = true ∧ j < code.length) ⟨h.up 0 h.zero, hl.1⟩ ?_ hr
    rintro a ⟨h1, h2⟩ j hj
    refine ⟨h.done a h2 ?_ j hj, nxB_lt hj⟩
    rw [← alike_iff.1 ha a (by omega)]; exact h1
  exact key.1

theorem stepLoad {w : World} {ops : Array Oper} {o : Oper} {a : Act} {K : Act → World → Prop} {Q : Exit → Act → World → Prop} {E : Prop} (hgd : o.guard = none) (ty : TypeId) (x : Operand) (ho : o.op = .load ty x)
    (b of : Nat) (hx : a.eval x = .pointer (some ⟨b, of, none⟩)) (cs : List Value) (d : TypeDesc) (hc : w.rangeAt b of cs)
    (hu : Try.prog.underlying ty = some d) (hd : d.isRow = true) (hi : (Try.prog.info? ty).map (·.size) = some cs.length)
    (h : K (a.put o.dst (.agg cs.toArray)) w) : if Region.wanted o (yielded ops a.tmps) = true then Oper.wp Try.prog o a w K Q else E := by
  have hw : Region.wanted o (yielded ops a.tmps) = true := by simp [Region.wanted, hgd]
  rw [if_pos hw]
  exact wp_load_mid ty x ho b of hx cs d hc hu hd hi h
theorem stepStore {w : World} {ops : Array Oper} {o : Oper} {a : Act} {K : Act → World → Prop} {Q : Exit → Act → World → Prop} {E : Prop} (hgd : o.guard = none) (ty : TypeId) (x y : Operand) (ho : o.op = .store ty x y)
    (b of : Nat) (cells : Array Value) (hx : a.eval x = .pointer (some ⟨b, of, none⟩)) (hy : a.eval y = .agg cells)
    (ht : w.there b of cells.size) (hi : (Try.prog.info? ty).map (·.size) = some cells.size) (h1 : cells.all (·.oneCell') = true)
    (h : K (a.put o.dst undef) (w.setCells b of cells.toList)) : if Region.wanted o (yielded ops a.tmps) = true then Oper.wp Try.prog o a w K Q else E := by
  have hw : Region.wanted o (yielded ops a.tmps) = true := by simp [Region.wanted, hgd]
  rw [if_pos hw]
  exact wp_store_mid ty x y ho b of cells hx hy ht hi h1 h

end Pg
end Go.Proofs.Ytffkkhaiedhaiaa

/- What a step does to the frames, plainly; what runs is reached and goes to one of what may come next. -/
namespace Go.Proofs.Ytffkkhaiedhaiaa
namespace Pg
open Go.ChangeShapes Go.WideShapes Go.ChangeAt Go.RowKit St Wd

/-- How a step may turn the frames. -/
inductive Kind (p : Prg) (m : Mc) (f : Fr) (i : Tx.Ins) (r : Mc × Int) : Prop
  | ends (h : r.2 ≠ 0)
  | on (f' : Fr) (h0 : r.2 = 0) (h : r.1.frames = m.frames.dropLast ++ [f']) (hc : f'.cls = f.cls) (hn : f'.name = f.name) (hp : (f'.pos = f.pos + 1 ∧ i.1 ≠ 11 ∧ i.1 ≠ 20) ∨ (f'.pos = i.2.1 ∧ (i.1 = 11 ∨ i.1 = 12)))
  | call (f' : Fr) (g : Fr) (h0 : r.2 = 0) (h17 : i.1 = 17) (h : r.1.frames = (m.frames.dropLast ++ [f']) ++ [g]) (hc : f'.cls = f.cls) (hn : f'.name = f.name) (hp : f'.pos = f.pos) (hg : g.name = i.2.2 ∧ g.pos = 0 ∧ g.cls = selF p ((m.heap[((f.stk[f'.stk.length]?).getD (0, 0)).2.toNat]?).getD default).cls i.2.2) (ho : objS p m.heap ((f.stk[f'.stk.length]?).getD (0, 0)) i.2.1 = true) (hm : ∃ own', methS p (selF p i.2.1 i.2.2) i.2.2 = some own')
  | give (b b' : Fr) (h0 : r.2 = 0) (h20 : i.1 = 20) (hb : m.frames.dropLast.getLast? = some b) (h : r.1.frames = m.frames.dropLast.dropLast ++ [b']) (hc : b'.cls = b.cls) (hn : b'.name = b.name) (hp : b'.pos = b.pos + 1)
theorem kind_on {p : Prg} {m : Mc} {f : Fr} {i : Tx.Ins} {m' : Mc} (hm : m'.frames = m.frames) {f1 : Fr} (hc : f1.cls = f.cls) (hn : f1.name = f.name) (t : Nat) (put : List Vl) {q : Int} (hp : (q = f.pos + 1 ∧ i.1 ≠ 11 ∧ i.1 ≠ 20) ∨ (q = i.2.1 ∧ (i.1 = 11 ∨ i.1 = 12))) : Kind p m f i (onS m' f1 t put q) :=
  .on { f1 with stk := f1.stk.take (f1.stk.length - t) ++ put, pos := q } rfl (by simp [onS, withTop, hm]) hc hn hp
theorem kind_call (p : Prg) (m : Mc) (f : Fr) (i : Tx.Ins) (h17 : i.1 = 17) : Kind p m f i (callS p m f i.2.1 i.2.2) := by
  unfold callS
  split
  · exact .ends (by simp)
  · rename_i own hown
    split
    · exact .ends (by simp)
    · split
      · exact .ends (by simp)
      · rename_i hst
        dsimp only
        split
        · exact .ends (by simp)
        · split
          · exact .ends (by simp)
          · split
            · exact .ends (by simp)
            · rename_i hob
              split
              · exact .ends (by simp)
              · have hl : (f.stk.take (f.stk.length - own.args.length - 1)).length = f.stk.length - own.args.length - 1 := by rw [List.length_take]; omega
                refine .call { f with stk := f.stk.take (f.stk.length - own.args.length - 1) } _ rfl h17 rfl rfl rfl rfl ?_ ?_ ⟨own, hown⟩
                · refine ⟨rfl, rfl, ?_⟩
                  dsimp only
                  rw [hl]
                · dsimp only
                  rw [hl]
                  simpa using hob
theorem kind_give (p : Prg) (m : Mc) (f : Fr) (i : Tx.Ins) (h20 : i.1 = 20) (v : Vl) : Kind p m f i (giveS m v) := by
  unfold giveS
  split
  · exact .ends (by simp)
  · rename_i b hb
    split
    · exact .ends (by simp)
    · exact .give b _ rfl h20 hb rfl rfl rfl rfl
theorem step_kind (p : Prg) (m : Mc) (f : Fr) (own : Meth) (i : Tx.Ins) (h20 : i.1 ≤ 20) (h1 : 1 ≤ i.1) : Kind p m f i (stepI p m f own i) := by
  obtain ⟨op, A, B⟩ := i
  dsimp only at h20 h1
  unfold stepI
  dsimp only
  by_cases hst : f.stk.length < takesS op ∨ 8 < f.stk.length - takesS op + putsS op
  · rw [if_pos hst]; exact .ends (by simp)
  · rw [if_neg hst]
    by_cases e1 : op = 1
    · rw [if_pos e1]; exact kind_on (p := p) (m := m) (f := f) (i := (op, A, B)) (by rfl) (by rfl) (by rfl) _ _ (.inl ⟨rfl, (show op ≠ 11 by omega), (show op ≠ 20 by omega)⟩)
    rw [if_neg e1]
    by_cases e2 : op = 2
    · rw [if_pos e2]; exact kind_on (p := p) (m := m) (f := f) (i := (op, A, B)) (by rfl) (by rfl) (by rfl) _ _ (.inl ⟨rfl, (show op ≠ 11 by omega), (show op ≠ 20 by omega)⟩)
    rw [if_neg e2]
    by_cases e3 : op = 3
    · rw [if_pos e3]; exact kind_on (p := p) (m := m) (f := f) (i := (op, A, B)) (by rfl) (by rfl) (by rfl) _ _ (.inl ⟨rfl, (show op ≠ 11 by omega), (show op ≠ 20 by omega)⟩)
    rw [if_neg e3]
    by_cases e4 : op = 4 ∨ op = 5 ∨ op = 6 ∨ op = 7
    · rw [if_pos e4]
      split
      · exact .ends (by simp)
      · split
        · exact .ends (by simp)
        · exact kind_on (p := p) (m := m) (f := f) (i := (op, A, B)) (by rfl) (by rfl) (by rfl) _ _ (.inl ⟨rfl, (show op ≠ 11 by omega), (show op ≠ 20 by omega)⟩)
    rw [if_neg e4]
    by_cases e8 : op = 8
    · rw [if_pos e8]; exact kind_on (p := p) (m := m) (f := f) (i := (op, A, B)) (by rfl) (by rfl) (by rfl) _ _ (.inl ⟨rfl, (show op ≠ 11 by omega), (show op ≠ 20 by omega)⟩)
    rw [if_neg e8]
    by_cases e9 : op = 9
    · rw [if_pos e9]; exact kind_on (p := p) (m := m) (f := f) (i := (op, A, B)) (by rfl) (by rfl) (by rfl) _ _ (.inl ⟨rfl, (show op ≠ 11 by omega), (show op ≠ 20 by omega)⟩)
    rw [if_neg e9]
    by_cases e10 : op = 10
    · rw [if_pos e10]; exact kind_on (p := p) (m := m) (f := f) (i := (op, A, B)) (by rfl) (by rfl) (by rfl) _ _ (.inl ⟨rfl, (show op ≠ 11 by omega), (show op ≠ 20 by omega)⟩)
    rw [if_neg e10]
    by_cases e11 : op = 11
    · rw [if_pos e11]; exact kind_on (p := p) (m := m) (f := f) (i := (op, A, B)) (by rfl) (by rfl) (by rfl) _ _ (.inr ⟨rfl, .inl e11⟩)
    rw [if_neg e11]
    by_cases e12 : op = 12
    · rw [if_pos e12]
      split
      · exact .ends (by simp)
      · split
        · exact kind_on (p := p) (m := m) (f := f) (i := (op, A, B)) (by rfl) (by rfl) (by rfl) _ _ (.inr ⟨rfl, .inr e12⟩)
        · exact kind_on (p := p) (m := m) (f := f) (i := (op, A, B)) (by rfl) (by rfl) (by rfl) _ _ (.inl ⟨rfl, (show op ≠ 11 by omega), (show op ≠ 20 by omega)⟩)
    rw [if_neg e12]
    by_cases e13 : op = 13
    · rw [if_pos e13]; exact kind_on (p := p) (m := m) (f := f) (i := (op, A, B)) (by rfl) (by rfl) (by rfl) _ _ (.inl ⟨rfl, (show op ≠ 11 by omega), (show op ≠ 20 by omega)⟩)
    rw [if_neg e13]
    by_cases e14 : op = 14
    · rw [if_pos e14]
      split
      · exact .ends (by simp)
      · split
        · exact .ends (by simp)
        · exact kind_on (p := p) (m := m) (f := f) (i := (op, A, B)) (by rfl) (by rfl) (by rfl) _ _ (.inl ⟨rfl, (show op ≠ 11 by omega), (show op ≠ 20 by omega)⟩)
    rw [if_neg e14]
    by_cases e15 : op = 15
    · rw [if_pos e15]
      split
      · exact .ends (by simp)
      · split
        · exact .ends (by simp)
        · split
          · exact .ends (by simp)
          · split
            · exact .ends (by simp)
            · exact kind_on (p := p) (m := m) (f := f) (i := (op, A, B)) (by rfl) (by rfl) (by rfl) _ _ (.inl ⟨rfl, (show op ≠ 11 by omega), (show op ≠ 20 by omega)⟩)
    rw [if_neg e15]
    by_cases e16 : op = 16
    · rw [if_pos e16]
      split
      · exact .ends (by simp)
      · split
        · exact .ends (by simp)
        · split
          · exact .ends (by simp)
          · split
            · exact .ends (by simp)
            · exact kind_on (p := p) (m := m) (f := f) (i := (op, A, B)) (by rfl) (by rfl) (by rfl) _ _ (.inl ⟨rfl, (show op ≠ 11 by omega), (show op ≠ 20 by omega)⟩)
    rw [if_neg e16]
    by_cases e17 : op = 17
    · rw [if_pos e17]; exact kind_call p m f (op, A, B) e17
    rw [if_neg e17]
    by_cases e18 : op = 18
    · rw [if_pos e18]
      split
      · exact .ends (by simp)
      · exact kind_on (p := p) (m := m) (f := f) (i := (op, A, B)) (by rfl) (by rfl) (by rfl) _ _ (.inl ⟨rfl, (show op ≠ 11 by omega), (show op ≠ 20 by omega)⟩)
    rw [if_neg e18]
    by_cases e19 : op = 19
    · rw [if_pos e19]
      split
      · exact .ends (by simp)
      · exact kind_on (p := p) (m := m) (f := f) (i := (op, A, B)) (by rfl) (by rfl) (by rfl) _ _ (.inl ⟨rfl, (show op ≠ 11 by omega), (show op ≠ 20 by omega)⟩)
    rw [if_neg e19]
    split
    · exact .ends (by simp)
    · exact kind_give p m f (op, A, B) (show op = 20 by omega) _

/-- The program that the laws make of code. -/
def mainP (a : List Tx.Ins) : Prg := [⟨-1, [-1], [⟨0, [], -1, a⟩]⟩]
theorem meth_main {a : List Tx.Ins} {c n : Int} {own : Meth} (h : methS (mainP a) c n = some own) : c = 0 ∧ n = 0 ∧ own = ⟨0, [], -1, a⟩ := by
  unfold methS mainP at h
  split at h
  · simp at h
  · rename_i hc
    obtain ⟨k, rfl⟩ := Int.eq_ofNat_of_zero_le (show 0 ≤ c by omega)
    rw [Int.toNat_natCast] at h
    cases k with
    | zero =>
      simp only [List.getElem?_cons_zero, ownF, List.find?_cons] at h
      by_cases e : n = 0
      · subst e
        simp at h
        exact ⟨rfl, rfl, h.symm⟩
      · have e' : ¬ ((0 : Int) = n) := fun h => e h.symm
        simp [e'] at h
    | succ k => simp at h
theorem own_main {a : List Tx.Ins} {f : Fr} {own : Meth} (h : ownS (mainP a) f = some own) : f.cls = 0 ∧ f.name = 0 ∧ own = ⟨0, [], -1, a⟩ := meth_main (n := f.name) (c := f.cls) h
theorem nx_next {a : List Tx.Ins} {k : Nat} (hk : k + 1 < a.length) (h11 : (insF a k).1 ≠ 11) (h20 : (insF a k).1 ≠ 20) : nxB a k (k + 1) = true := by
  unfold nxB waysF
  simp only [h11, h20, if_false, Bool.and_eq_true, decide_eq_true_eq]
  refine ⟨?_, hk⟩
  split <;> simp
theorem nx_jump {a : List Tx.Ins} (hok : Lay.codeOk a = true) {k : Nat} (hk : k < a.length) (h : (insF a k).1 = 11 ∨ (insF a k).1 = 12) : nxB a k (insF a k).2.1.toNat = true := by
  have hj := jump_in hok hk h
  unfold nxB waysF
  simp only [Bool.and_eq_true, decide_eq_true_eq]
  refine ⟨?_, by omega⟩
  rcases h with h | h <;> simp [h]
/-- What holds of the frames while code runs. -/
structure WayI (a : List Tx.Ins) (m : Mc) : Prop where
  all : ∀ f ∈ m.frames, f.cls = 0 ∧ f.name = 0 ∧ 0 ≤ f.pos ∧ (f.pos < (a.length : Int) → Rch a f.pos.toNat)
  low : ∀ f ∈ m.frames.dropLast, f.pos < (a.length : Int) ∧ (insF a f.pos.toNat).1 = 17
theorem WayI.start (a : List Tx.Ins) : WayI a (startM (mainP a)) := by
  refine ⟨fun f hf => ?_, fun f hf => ?_⟩
  · simp only [startM, List.mem_singleton] at hf
    subst hf
    exact ⟨rfl, rfl, by decide, fun _ => .zero⟩
  · simp [startM] at hf
theorem last_split {α : Type} {l : List α} {x : α} (h : l.getLast? = some x) : l = l.dropLast ++ [x] := by
  obtain ⟨ys, rfl⟩ := List.getLast?_eq_some_iff.1 h
  rw [List.dropLast_concat]
theorem mem_dropLast {α : Type} {l : List α} {x : α} (h : x ∈ l.dropLast) : x ∈ l := (List.dropLast_sublist l).subset h
theorem way_end {a : List Tx.Ins} {m : Mc} {f : Fr} (hl : m.frames.getLast? = some f) (hf : (a.length : Int) ≤ f.pos) : (stepS (mainP a) m).2 = 6 := by
  unfold stepS
  rw [hl]
  dsimp only
  split
  · rfl
  · rename_i own ho
    obtain ⟨_, _, rfl⟩ := own_main ho
    rw [if_pos (.inr hf)]
theorem way_step {a : List Tx.Ins} (hok : Lay.codeOk a = true) {m : Mc} (h : WayI a m) {f : Fr} (hl : m.frames.getLast? = some f) (h0 : (stepS (mainP a) m).2 = 0) :
    WayI a (stepS (mainP a) m).1 ∧ ∀ f', (stepS (mainP a) m).1.frames.getLast? = some f' → (stepS (mainP a) m).1.frames.length = m.frames.length → f.pos + 1 < (a.length : Int) → nxB a f.pos.toNat f'.pos.toNat = true ∧ 0 ≤ f'.pos := by
  have hsp := last_split hl
  have hfm : f ∈ m.frames := by rw [hsp]; simp
  obtain ⟨f1, f2, f3, f4⟩ := h.all f hfm
  have hfl : f.pos < (a.length : Int) := by
    rcases Int.lt_or_le f.pos a.length with h1 | h1
    · exact h1
    · rw [way_end hl h1] at h0; simp at h0
  obtain ⟨k, hk⟩ := Int.eq_ofNat_of_zero_le f3
  have hkl : k < a.length := by omega
  have hkn : f.pos.toNat = k := by omega
  have hrk : Rch a k := by rw [← hkn]; exact f4 hfl
  have hstep : ∃ own, stepS (mainP a) m = stepI (mainP a) m f own (insF a k) := by
    unfold stepS at h0 ⊢
    rw [hl] at h0 ⊢
    dsimp only at h0 ⊢
    split
    · rename_i hn; rw [hn] at h0; simp at h0
    · rename_i own ho
      obtain ⟨_, _, rfl⟩ := own_main ho
      refine ⟨⟨0, [], -1, a⟩, ?_⟩
      rw [if_neg (by dsimp only; omega), hkn]
      unfold insF
      rw [List.getD_eq_getElem?_getD]
  obtain ⟨own, hs⟩ := hstep
  have hop := Lay.ok_at hok (ins_is hkl)
  have hop2 := Tx.ok_op hop
  rw [hs] at h0 ⊢
  have hdl : ∀ g ∈ m.frames.dropLast, g ∈ m.frames := fun g hg => mem_dropLast hg
  cases step_kind (mainP a) m f own (insF a k) hop2.2 hop2.1 with
  | ends he => exact absurd h0 he
  | on f' _ hfr hc hn hp =>
    have hpos : 0 ≤ f'.pos ∧ (f'.pos < (a.length : Int) → nxB a k f'.pos.toNat = true) := by
      rcases hp with ⟨hp, h11, h20⟩ | ⟨hp, hj⟩
      · refine ⟨by omega, fun hlt => ?_⟩
        rw [show f'.pos.toNat = k + 1 by omega]
        exact nx_next (by omega) h11 h20
      · have := jump_in hok hkl hj
        refine ⟨by omega, fun _ => ?_⟩
        rw [hp]
        exact nx_jump hok hkl hj
    refine ⟨⟨fun g hg => ?_, fun g hg => ?_⟩, fun g hg hlen hlt => ?_⟩
    · rw [hfr] at hg
      rcases List.mem_append.1 hg with hg | hg
      · exact h.all g (hdl g hg)
      · simp at hg; subst hg
        exact ⟨hc.trans f1, hn.trans f2, hpos.1, fun hl => .step hrk (hpos.2 hl)⟩
    · rw [hfr, List.dropLast_concat] at hg
      exact h.low g hg
    · rw [hfr, List.getLast?_concat] at hg
      injection hg with hg
      subst hg
      rw [hkn]
      refine ⟨hpos.2 ?_, hpos.1⟩
      rcases hp with ⟨hp, _⟩ | ⟨hp, hj⟩
      · omega
      · have := jump_in hok hkl hj; omega
  | call f' g _ h17 hfr hc hn hp hg ho hm =>
    have hgg : g.cls = 0 ∧ g.name = 0 ∧ g.pos = 0 := by
      obtain ⟨own', hm⟩ := hm
      obtain ⟨_, hB, _⟩ := meth_main hm
      obtain ⟨g1, g2, g3⟩ := hg
      refine ⟨?_, g1.trans hB, g2⟩
      rw [g3, hB]
      unfold objS at ho
      rw [Bool.and_eq_true] at ho
      have h2 := ho.2
      cases hh : m.heap[((f.stk[f'.stk.length]?).getD (0, 0)).2.toNat]? with
      | none => rw [hh] at h2; simp at h2
      | some o =>
        rw [hh] at h2
        simp only [Bool.and_eq_true, decide_eq_true_eq] at h2
        have h3 := h2.1.1
        have h4 := h2.1.2
        have hl1 : (mainP a).length = 1 := rfl
        rw [hl1] at h4
        have hc0 : o.cls = 0 := by omega
        simp only [Option.getD_some, hc0]
        simp [selF, upL, upF, mainP, hasM, ownF]
    refine ⟨⟨fun x hx => ?_, fun x hx => ?_⟩, fun x hx hlen _ => ?_⟩
    · rw [hfr] at hx
      rcases List.mem_append.1 hx with hx | hx
      · rcases List.mem_append.1 hx with hx | hx
        · exact h.all x (hdl x hx)
        · simp at hx; subst hx
          exact ⟨hc.trans f1, hn.trans f2, by rw [hp]; exact f3, fun _ => by rw [hp, hkn]; exact hrk⟩
      · simp at hx; subst hx
        obtain ⟨g1, g2, g3⟩ := hgg
        exact ⟨g1, g2, by rw [g3]; decide, fun _ => by rw [g3]; exact .zero⟩
    · rw [hfr, List.dropLast_concat] at hx
      rcases List.mem_append.1 hx with hx | hx
      · exact h.low x hx
      · simp at hx; subst hx
        rw [hp, hkn]
        exact ⟨hfl, h17⟩
    · rw [hfr] at hlen
      have := congrArg List.length hsp
      simp at hlen this
      omega
  | give b b' _ h20 hb hfr hc hn hp =>
    have hbl := last_split hb
    have hbm : b ∈ m.frames.dropLast := by rw [hbl]; simp
    obtain ⟨b1, b2, b3, b4⟩ := h.all b (hdl b hbm)
    obtain ⟨b5, b6⟩ := h.low b hbm
    refine ⟨⟨fun x hx => ?_, fun x hx => ?_⟩, fun x hx hlen _ => ?_⟩
    · rw [hfr] at hx
      rcases List.mem_append.1 hx with hx | hx
      · exact h.all x (hdl x (mem_dropLast hx))
      · obtain rfl : x = b' := by simpa using hx
        refine ⟨hc.trans b1, hn.trans b2, by omega, fun hlt => ?_⟩
        have hnx : nxB a b.pos.toNat (b.pos.toNat + 1) = true := nx_next (by omega) (by rw [b6]; decide) (by rw [b6]; decide)
        rw [show x.pos.toNat = b.pos.toNat + 1 by omega]
        exact .step (b4 b5) hnx
    · rw [hfr, List.dropLast_concat] at hx
      exact h.low x (by rw [hbl]; exact List.mem_append_left _ hx)
    · rw [hfr] at hlen
      have e1 := congrArg List.length hsp
      have e2 := congrArg List.length hbl
      simp at hlen e1 e2
      omega
end Pg
end Go.Proofs.Ytffkkhaiedhaiaa

/- Which locals are live, plainly: the least answer, and how one comes to it step by step; sets of locals as bits. -/
namespace Go.Proofs.Ytffkkhaiedhaiaa
namespace Pg
open Go.ChangeShapes Go.WideShapes Go.ChangeAt Go.RowKit St

abbrev Lvs := Nat → Nat → Bool
/-- Live behind step k: in what any of those that may come next wants. -/
def outF (code : List Tx.Ins) (k : Nat) (L : Lvs) (v : Nat) : Bool := (List.range 40).any fun j => nxB code k j && L j v
def inF (i : Tx.Ins) (v : Nat) (o : Bool) : Bool := if i.1 = 2 ∧ i.2.1 = (v : Int) then true else if i.1 = 3 ∧ i.2.1 = (v : Int) then false else o
def liveF (code : List Tx.Ins) (k : Nat) (L : Lvs) (v : Nat) : Bool := inF (insF code k) v (outF code k L v)
def LeL (A B : Lvs) : Prop := ∀ j v, v < 8 → A j v = true → B j v = true
theorem LeL.refl (A : Lvs) : LeL A A := fun _ _ _ h => h
theorem LeL.trans {A B C : Lvs} (h : LeL A B) (k : LeL B C) : LeL A C := fun j v hv ha => k j v hv (h j v hv ha)
theorem inF_mono {i : Tx.Ins} {v : Nat} {a b : Bool} (h : a = true → b = true) : inF i v a = true → inF i v b = true := by
  unfold inF
  split
  · exact id
  · split
    · exact id
    · exact h
theorem outF_mono {code : List Tx.Ins} {k : Nat} {A B : Lvs} {v : Nat} (h : ∀ j, j < code.length → A j v = true → B j v = true) : outF code k A v = true → outF code k B v = true := by
  unfold outF
  simp only [List.any_eq_true, Bool.and_eq_true]
  rintro ⟨j, hj, hn, ha⟩
  exact ⟨j, hj, hn, h j (nxB_lt hn) ha⟩
theorem live_mono {code : List Tx.Ins} {k : Nat} {A B : Lvs} {v : Nat} (h : ∀ j, j < code.length → A j v = true → B j v = true) : liveF code k A v = true → liveF code k B v = true := inF_mono (outF_mono h)
theorem live_congr {code : List Tx.Ins} {k : Nat} {A B : Lvs} {v : Nat} (h : ∀ j, j < code.length → A j v = B j v) : liveF code k A v = liveF code k B v := by
  rw [Bool.eq_iff_iff]
  exact ⟨live_mono fun j hj ha => by rw [← h j hj]; exact ha, live_mono fun j hj ha => by rw [h j hj]; exact ha⟩
def PreL (code : List Tx.Ins) (G : Lvs) : Prop := ∀ k v, k < code.length → v < 8 → liveF code k G v = true → G k v = true
structure LvI (code : List Tx.Ins) (L : Lvs) : Prop where
  up : ∀ k v, k < code.length → v < 8 → L k v = true → liveF code k L v = true
  low : ∀ G, PreL code G → ∀ k v, k < code.length → v < 8 → L k v = true → G k v = true
def setL (L : Lvs) (k : Nat) (r : Nat → Bool) : Lvs := fun j v => if j = k then r v else L j v
theorem setL_le {code : List Tx.Ins} {L : Lvs} (h : LvI code L) {k : Nat} (hk : k < code.length) : LeL L (setL L k (liveF code k L)) := fun j v hv hj => by
  unfold setL
  split
  · rename_i e; subst e; exact h.up j v hk hv hj
  · exact hj
theorem LvI.set {code : List Tx.Ins} {L : Lvs} (h : LvI code L) {k : Nat} (hk : k < code.length) : LvI code (setL L k (liveF code k L)) := by
  have hle := setL_le h hk
  refine ⟨fun j v hj hv hl => ?_, fun G hG j v hj hv hl => ?_⟩
  · refine live_mono (fun i _ hi => hle i v hv hi) (k := j) ?_
    unfold setL at hl
    split at hl
    · rename_i e; subst e; exact hl
    · exact h.up j v hj hv hl
  · unfold setL at hl
    split at hl
    · rename_i e; subst e
      exact hG j v hj hv (live_mono (fun i hi ha => h.low G hG i v hi hv ha) hl)
    · exact h.low G hG j v hj hv hl
/-- Where a round from the last step on stands: B as it began, L by now, those from k on are done. -/
structure SwL (code : List Tx.Ins) (B L : Lvs) (k : Nat) : Prop where
  lv : LvI code L
  le : LeL B L
  done : ∀ j, k ≤ j → j < code.length → ∃ M, LeL B M ∧ LeL M L ∧ ∀ v, v < 8 → L j v = liveF code j M v
theorem SwL.start {code : List Tx.Ins} {L : Lvs} (h : LvI code L) : SwL code L L code.length := ⟨h, LeL.refl _, fun j h1 h2 => by omega⟩
theorem SwL.step {code : List Tx.Ins} {B L : Lvs} {k : Nat} (h : SwL code B L (k + 1)) (hk : k < code.length) : SwL code B (setL L k (liveF code k L)) k := by
  have hle := setL_le h.lv hk
  refine ⟨h.lv.set hk, h.le.trans hle, fun j h1 h2 => ?_⟩
  by_cases e : j = k
  · subst e
    exact ⟨L, h.le, hle, fun v _ => by simp [setL]⟩
  · obtain ⟨M, m1, m2, m3⟩ := h.done j (by omega) h2
    exact ⟨M, m1, m2.trans hle, fun v hv => by rw [← m3 v hv]; simp [setL, e]⟩
theorem SwL.stay {code : List Tx.Ins} {B L : Lvs} {k : Nat} (h : SwL code B L (k + 1)) (he : ∀ v, v < 8 → L k v = liveF code k L v) : SwL code B L k :=
  ⟨h.lv, h.le, fun j h1 h2 => by
    by_cases e : j = k
    · subst e; exact ⟨L, h.le, LeL.refl _, he⟩
    · exact h.done j (by omega) h2⟩
theorem SwL.fix {code : List Tx.Ins} {B L : Lvs} (h : SwL code B L 0) (he : ∀ j v, j < code.length → v < 8 → L j v = B j v) : ∀ k v, k < code.length → v < 8 → L k v = liveF code k L v := fun k v hk hv => by
  obtain ⟨M, m1, m2, m3⟩ := h.done k (Nat.zero_le _) hk
  rw [m3 v hv]
  refine live_congr fun j hj => ?_
  rw [Bool.eq_iff_iff]
  exact ⟨m2 j v hv, fun hl => m1 j v hv (by rw [← he j v hj hv]; exact hl)⟩
open Classical in
/-- Live ahead of step k: in whatever holds. -/
noncomputable def lvB (code : List Tx.Ins) (k v : Nat) : Bool := decide (∀ G, PreL code G → G k v = true)
theorem live_end {code : List Tx.Ins} {L : Lvs} (h : LvI code L) (hf : ∀ k v, k < code.length → v < 8 → L k v = liveF code k L v) {k v : Nat} (hk : k < code.length) (hv : v < 8) : L k v = lvB code k v := by
  rw [Bool.eq_iff_iff]
  simp only [lvB, decide_eq_true_eq]
  exact ⟨fun hl G hG => h.low G hG k v hk hv hl, fun hl => hl L fun j u hj hu hx => by rw [hf j u hj hu]; exact hx⟩

def flatP (L : Lvs) (q : Nat) : Bool := L (q / 8) (q % 8)
theorem flat_le {A B : Lvs} (h : LeL A B) (q : Nat) : flatP A q = true → flatP B q = true := h _ _ (Nat.mod_lt _ (by decide))
theorem flat_at (L : Lvs) (k v : Nat) (hv : v < 8) : flatP L (k * 8 + v) = L k v := by
  unfold flatP
  rw [show (k * 8 + v) / 8 = k by omega, show (k * 8 + v) % 8 = v by omega]
theorem flat_set (L : Lvs) (k : Nat) (r : Nat → Bool) (q : Nat) : flatP (setL L k r) q = if q / 8 = k then r (q % 8) else flatP L q := by
  unfold flatP setL
  rfl

/-- The bits of a set below n. -/
def bn (P : Nat → Bool) : Nat → Nat
  | 0 => 0
  | n + 1 => bn P n ||| (if P n then 2 ^ n else 0)
theorem bn_test (P : Nat → Bool) (v : Nat) : ∀ n, (bn P n).testBit v = (decide (v < n) && P v)
  | 0 => by simp [bn]
  | n + 1 => by
    have ih := bn_test P v n
    unfold bn
    rw [Nat.testBit_or, ih]
    by_cases h : P n = true
    · rw [if_pos h, Nat.testBit_two_pow]
      by_cases e : n = v
      · subst e; simp [h]
      · have : decide (v < n + 1) = decide (v < n) := by rw [decide_eq_decide]; omega
        simp [e, this]
    · rw [if_neg h, Nat.zero_testBit, Bool.or_false]
      by_cases e : n = v
      · subst e; simp [h]
      · have : decide (v < n + 1) = decide (v < n) := by rw [decide_eq_decide]; omega
        rw [this]
theorem bn_lt (P : Nat → Bool) (n : Nat) : bn P n < 2 ^ n := by
  refine Nat.lt_pow_two_of_testBit _ fun i hi => ?_
  rw [bn_test]
  have : decide (i < n) = false := by simp; omega
  rw [this, Bool.false_and]
theorem bn_ext {x : Nat} {P : Nat → Bool} (h : ∀ v, x.testBit v = (decide (v < 8) && P v)) : x = bn P 8 := Nat.eq_of_testBit_eq fun v => by rw [h, bn_test]
theorem bn_eq {P Q : Nat → Bool} : bn P 8 = bn Q 8 ↔ ∀ v, v < 8 → P v = Q v := by
  constructor
  · intro h v hv
    have := congrArg (fun x : Nat => x.testBit v) h
    simp only [bn_test] at this
    simpa [hv] using this
  · intro h
    refine bn_ext fun v => ?_
    rw [bn_test]
    by_cases hv : v < 8
    · simp [hv, h v hv]
    · simp [hv]
theorem bn_none : bn (fun _ => false) 8 = 0 := by decide
theorem wraps63 (n : Int) (h₀ : 0 ≤ n) (h₁ : n < 2 ^ 63) : IntKind.i64.wrap n = n := by rw [IntKind.wrap_i64]; omega
theorem or_nat (a b : Nat) (ha : a < 256) (hb : b < 256) : bits .or .i64 (a : Int) (b : Int) = ((a ||| b : Nat) : Int) :=
  (bits_nat .i64 63 (by decide) wraps63 a b (Nat.lt_of_lt_of_le ha (by decide)) (Nat.lt_of_lt_of_le hb (by decide))).2
theorem or_bn (P Q : Nat → Bool) : bits .or .i64 (bn P 8 : Int) (bn Q 8 : Int) = (bn (fun v => P v || Q v) 8 : Int) := by
  rw [or_nat _ _ (bn_lt P 8) (bn_lt Q 8)]
  congr 1
  refine bn_ext fun v => ?_
  rw [Nat.testBit_or, bn_test, bn_test]
  by_cases hv : v < 8 <;> simp [hv]
theorem or_bit (P : Nat → Bool) (a : Nat) (ha : a < 8) : bits .or .i64 (bn P 8 : Int) ((2 ^ a : Nat) : Int) = (bn (fun v => P v || decide (v = a)) 8 : Int) := by
  have h2 : 2 ^ a < 256 := Nat.lt_of_lt_of_le (Nat.pow_lt_pow_right (by decide) ha) (by decide)
  rw [or_nat _ _ (bn_lt P 8) h2]
  congr 1
  refine bn_ext fun v => ?_
  rw [Nat.testBit_or, bn_test, Nat.testBit_two_pow]
  by_cases e : a = v
  · subst e; simp [ha]
  · by_cases hv : v < 8
    · simp [hv, e, Ne.symm e]
    · simp [hv, e]
theorem not_bit (P : Nat → Bool) (a : Nat) (ha : a < 8) : bits .andNot .i64 (bn P 8 : Int) ((2 ^ a : Nat) : Int) = (bn (fun v => P v && !decide (v = a)) 8 : Int) := by
  have hP := bn_lt P 8
  have h2 : 2 ^ a < 256 := Nat.lt_of_lt_of_le (Nat.pow_lt_pow_right (by decide) ha) (by decide)
  have key : (BitVec.ofNat 64 (bn P 8) &&& ~~~(BitVec.ofNat 64 (2 ^ a))).toNat = bn (fun v => P v && !decide (v = a)) 8 := by
    refine bn_ext fun v => ?_
    rw [BitVec.testBit_toNat, BitVec.getLsbD_and, BitVec.getLsbD_not, BitVec.getLsbD_ofNat, BitVec.getLsbD_ofNat, bn_test, Nat.testBit_two_pow]
    by_cases hv : v < 8
    · have h64 : v < 64 := by omega
      simp [hv, h64]
      by_cases e : a = v
      · subst e; simp
      · simp [e, Ne.symm e]
    · simp [hv]
  have hlt := bn_lt (fun v => P v && !decide (v = a)) 8
  show IntKind.i64.wrap ((BitVec.ofInt 64 (bn P 8 : Int) &&& ~~~(BitVec.ofInt 64 ((2 ^ a : Nat) : Int))).toNat : Int) = _
  rw [BitVec.ofInt_natCast, BitVec.ofInt_natCast, key]
  exact wraps63 _ (by omega) (by omega)
end Pg
end Go.Proofs.Ytffkkhaiedhaiaa

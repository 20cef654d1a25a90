/- What a step does to the frames, plainly; what runs is reached and goes to one of what may come next. -/
import Derived.Test.YtffkkhaiedhaiaaJGr0
import Derived.Test.YtffkkhaiedhaiaaJNx6
namespace Go.Proofs.Ytffkkhaiedhaiaa
namespace Pg
open Go.ChangeShapes Go.WideShapes Go.ChangeAt Go.RowKit St Wd

/-- How a step may turn the frames. -/
inductive Kind (p : Prg) (m : Mc) (f : Fr) (i : Tx.Ins) (r : Mc × Int) : Prop
  | ends (h : r.2 ≠ 0)
  | on (f' : Fr) (h0 : r.2 = 0) (h : r.1.frames = m.frames.dropLast ++ [f']) (hc : f'.cls = f.cls) (hn : f'.name = f.name) (hp : (f'.pos = f.pos + 1 ∧ i.1 ≠ 11 ∧ i.1 ≠ 20) ∨ (f'.pos = i.2.1 ∧ (i.1 = 11 ∨ i.1 = 12)))
  | call (f' : Fr) (g : Fr) (h0 : r.2 = 0) (h17 : i.1 = 17) (h : r.1.frames = (m.frames.dropLast ++ [f']) ++ [g]) (hc : f'.cls = f.cls) (hn : f'.name = f.name) (hp : f'.pos = f.pos) (hg : g.name = i.2.2 ∧ g.pos = 0 ∧ g.cls = selF p ((m.heap[((f.stk[f'.stk.length]?).getD (0, 0)).2.toNat]?).getD default).cls i.2.2) (ho : objS p m.heap ((f.stk[f'.stk.length]?).getD (0, 0)) i.2.1 = true) (hm : ∃ own', methS p (selF p i.2.1 i.2.2) i.2.2 = some own')
  | give (b b' : Fr) (h0 : r.2 = 0) (h20 : i.1 = 20) (hb : m.frames.dropLast.getLast? = some b) (h : r.1.frames = m.frames.dropLast.dropLast ++ [b']) (hc : b'.cls = b.cls) (hn : b'.name = b.name) (hp : b'.pos = b.pos + 1)
theorem kind_on {p : Prg} {m : Mc} {f : Fr} {i : Tx.Ins} {m' : Mc} (hm : m'.frames = m.frames) {f1 : Fr} (hc : f1.cls = f.cls) (hn : f1.name = f.name) (t : Nat) (put : List Vl) {q : Int} (hp : (q = f.pos + 1 ∧ i.1 ≠ 11 ∧ i.1 ≠ 20) ∨ (q = i.2.1 ∧ (i.1 = 11 ∨ i.1 = 12))) : Kind p m f i (onS m' f1 t put q) :=
  .on { f1 with stk := f1.stk.take (f1.stk.length - t) ++ put, pos := q } rfl (by simp [onS, withTop, hm]) hc hn hp
theorem kind_call (p : Prg) (m : Mc) (f : Fr) (i : Tx.Ins) (h17 : i.1 = 17) : Kind p m f i (callS p m f i.2.1 i.2.2) := by
  unfold callS
  split
  · exact .ends (by simp)
  · rename_i own hown
    split
    · exact .ends (by simp)
    · split
      · exact .ends (by simp)
      · rename_i hst
        dsimp only
        split
        · exact .ends (by simp)
        · split
          · exact .ends (by simp)
          · split
            · exact .ends (by simp)
            · rename_i hob
              split
              · exact .ends (by simp)
              · have hl : (f.stk.take (f.stk.length - own.args.length - 1)).length = f.stk.length - own.args.length - 1 := by rw [List.length_take]; omega
                refine .call { f with stk := f.stk.take (f.stk.length - own.args.length - 1) } _ rfl h17 rfl rfl rfl rfl ?_ ?_ ⟨own, hown⟩
                · refine ⟨rfl, rfl, ?_⟩
                  dsimp only
                  rw [hl]
                · dsimp only
                  rw [hl]
                  simpa using hob
theorem kind_give (p : Prg) (m : Mc) (f : Fr) (i : Tx.Ins) (h20 : i.1 = 20) (v : Vl) : Kind p m f i (giveS m v) := by
  unfold giveS
  split
  · exact .ends (by simp)
  · rename_i b hb
    split
    · exact .ends (by simp)
    · exact .give b _ rfl h20 hb rfl rfl rfl rfl
theorem step_kind (p : Prg) (m : Mc) (f : Fr) (own : Meth) (i : Tx.Ins) (h20 : i.1 ≤ 20) (h1 : 1 ≤ i.1) : Kind p m f i (stepI p m f own i) := by
  obtain ⟨op, A, B⟩ := i
  dsimp only at h20 h1
  unfold stepI
  dsimp only
  by_cases hst : f.stk.length < takesS op ∨ 8 < f.stk.length - takesS op + putsS op
  · rw [if_pos hst]; exact .ends (by simp)
  · rw [if_neg hst]
    by_cases e1 : op = 1
    · rw [if_pos e1]; exact kind_on (p := p) (m := m) (f := f) (i := (op, A, B)) (by rfl) (by rfl) (by rfl) _ _ (.inl ⟨rfl, (show op ≠ 11 by omega), (show op ≠ 20 by omega)⟩)
    rw [if_neg e1]
    by_cases e2 : op = 2
    · rw [if_pos e2]; exact kind_on (p := p) (m := m) (f := f) (i := (op, A, B)) (by rfl) (by rfl) (by rfl) _ _ (.inl ⟨rfl, (show op ≠ 11 by omega), (show op ≠ 20 by omega)⟩)
    rw [if_neg e2]
    by_cases e3 : op = 3
    · rw [if_pos e3]; exact kind_on (p := p) (m := m) (f := f) (i := (op, A, B)) (by rfl) (by rfl) (by rfl) _ _ (.inl ⟨rfl, (show op ≠ 11 by omega), (show op ≠ 20 by omega)⟩)
    rw [if_neg e3]
    by_cases e4 : op = 4 ∨ op = 5 ∨ op = 6 ∨ op = 7
    · rw [if_pos e4]
      split
      · exact .ends (by simp)
      · split
        · exact .ends (by simp)
        · exact kind_on (p := p) (m := m) (f := f) (i := (op, A, B)) (by rfl) (by rfl) (by rfl) _ _ (.inl ⟨rfl, (show op ≠ 11 by omega), (show op ≠ 20 by omega)⟩)
    rw [if_neg e4]
    by_cases e8 : op = 8
    · rw [if_pos e8]; exact kind_on (p := p) (m := m) (f := f) (i := (op, A, B)) (by rfl) (by rfl) (by rfl) _ _ (.inl ⟨rfl, (show op ≠ 11 by omega), (show op ≠ 20 by omega)⟩)
    rw [if_neg e8]
    by_cases e9 : op = 9
    · rw [if_pos e9]; exact kind_on (p := p) (m := m) (f := f) (i := (op, A, B)) (by rfl) (by rfl) (by rfl) _ _ (.inl ⟨rfl, (show op ≠ 11 by omega), (show op ≠ 20 by omega)⟩)
    rw [if_neg e9]
    by_cases e10 : op = 10
    · rw [if_pos e10]; exact kind_on (p := p) (m := m) (f := f) (i := (op, A, B)) (by rfl) (by rfl) (by rfl) _ _ (.inl ⟨rfl, (show op ≠ 11 by omega), (show op ≠ 20 by omega)⟩)
    rw [if_neg e10]
    by_cases e11 : op = 11
    · rw [if_pos e11]; exact kind_on (p := p) (m := m) (f := f) (i := (op, A, B)) (by rfl) (by rfl) (by rfl) _ _ (.inr ⟨rfl, .inl e11⟩)
    rw [if_neg e11]
    by_cases e12 : op = 12
    · rw [if_pos e12]
      split
      · exact .ends (by simp)
      · split
        · exact kind_on (p := p) (m := m) (f := f) (i := (op, A, B)) (by rfl) (by rfl) (by rfl) _ _ (.inr ⟨rfl, .inr e12⟩)
        · exact kind_on (p := p) (m := m) (f := f) (i := (op, A, B)) (by rfl) (by rfl) (by rfl) _ _ (.inl ⟨rfl, (show op ≠ 11 by omega), (show op ≠ 20 by omega)⟩)
    rw [if_neg e12]
    by_cases e13 : op = 13
    · rw [if_pos e13]; exact kind_on (p := p) (m := m) (f := f) (i := (op, A, B)) (by rfl) (by rfl) (by rfl) _ _ (.inl ⟨rfl, (show op ≠ 11 by omega), (show op ≠ 20 by omega)⟩)
    rw [if_neg e13]
    by_cases e14 : op = 14
    · rw [if_pos e14]
      split
      · exact .ends (by simp)
      · split
        · exact .ends (by simp)
        · exact kind_on (p := p) (m := m) (f := f) (i := (op, A, B)) (by rfl) (by rfl) (by rfl) _ _ (.inl ⟨rfl, (show op ≠ 11 by omega), (show op ≠ 20 by omega)⟩)
    rw [if_neg e14]
    by_cases e15 : op = 15
    · rw [if_pos e15]
      split
      · exact .ends (by simp)
      · split
        · exact .ends (by simp)
        · split
          · exact .ends (by simp)
          · split
            · exact .ends (by simp)
            · exact kind_on (p := p) (m := m) (f := f) (i := (op, A, B)) (by rfl) (by rfl) (by rfl) _ _ (.inl ⟨rfl, (show op ≠ 11 by omega), (show op ≠ 20 by omega)⟩)
    rw [if_neg e15]
    by_cases e16 : op = 16
    · rw [if_pos e16]
      split
      · exact .ends (by simp)
      · split
        · exact .ends (by simp)
        · split
          · exact .ends (by simp)
          · split
            · exact .ends (by simp)
            · exact kind_on (p := p) (m := m) (f := f) (i := (op, A, B)) (by rfl) (by rfl) (by rfl) _ _ (.inl ⟨rfl, (show op ≠ 11 by omega), (show op ≠ 20 by omega)⟩)
    rw [if_neg e16]
    by_cases e17 : op = 17
    · rw [if_pos e17]; exact kind_call p m f (op, A, B) e17
    rw [if_neg e17]
    by_cases e18 : op = 18
    · rw [if_pos e18]
      split
      · exact .ends (by simp)
      · exact kind_on (p := p) (m := m) (f := f) (i := (op, A, B)) (by rfl) (by rfl) (by rfl) _ _ (.inl ⟨rfl, (show op ≠ 11 by omega), (show op ≠ 20 by omega)⟩)
    rw [if_neg e18]
    by_cases e19 : op = 19
    · rw [if_pos e19]
      split
      · exact .ends (by simp)
      · exact kind_on (p := p) (m := m) (f := f) (i := (op, A, B)) (by rfl) (by rfl) (by rfl) _ _ (.inl ⟨rfl, (show op ≠ 11 by omega), (show op ≠ 20 by omega)⟩)
    rw [if_neg e19]
    split
    · exact .ends (by simp)
    · exact kind_give p m f (op, A, B) (show op = 20 by omega) _

/-- The program that the laws make of code. -/
def mainP (a : List Tx.Ins) : Prg := [⟨-1, [-1], [⟨0, [], -1, a⟩]⟩]
theorem meth_main {a : List Tx.Ins} {c n : Int} {own : Meth} (h : methS (mainP a) c n = some own) : c = 0 ∧ n = 0 ∧ own = ⟨0, [], -1, a⟩ := by
  unfold methS mainP at h
  split at h
  · simp at h
  · rename_i hc
    obtain ⟨k, rfl⟩ := Int.eq_ofNat_of_zero_le (show 0 ≤ c by omega)
    rw [Int.toNat_natCast] at h
    cases k with
    | zero =>
      simp only [List.getElem?_cons_zero, ownF, List.find?_cons] at h
      by_cases e : n = 0
      · subst e
        simp at h
        exact ⟨rfl, rfl, h.symm⟩
      · have e' : ¬ ((0 : Int) = n) := fun h => e h.symm
        simp [e'] at h
    | succ k => simp at h
theorem own_main {a : List Tx.Ins} {f : Fr} {own : Meth} (h : ownS (mainP a) f = some own) : f.cls = 0 ∧ f.name = 0 ∧ own = ⟨0, [], -1, a⟩ := meth_main (n := f.name) (c := f.cls) h
theorem nx_next {a : List Tx.Ins} {k : Nat} (hk : k + 1 < a.length) (h11 : (insF a k).1 ≠ 11) (h20 : (insF a k).1 ≠ 20) : nxB a k (k + 1) = true := by
  unfold nxB waysF
  simp only [h11, h20, if_false, Bool.and_eq_true, decide_eq_true_eq]
  refine ⟨?_, hk⟩
  split <;> simp
theorem nx_jump {a : List Tx.Ins} (hok : Lay.codeOk a = true) {k : Nat} (hk : k < a.length) (h : (insF a k).1 = 11 ∨ (insF a k).1 = 12) : nxB a k (insF a k).2.1.toNat = true := by
  have hj := jump_in hok hk h
  unfold nxB waysF
  simp only [Bool.and_eq_true, decide_eq_true_eq]
  refine ⟨?_, by omega⟩
  rcases h with h | h <;> simp [h]
/-- What holds of the frames while code runs. -/
structure WayI (a : List Tx.Ins) (m : Mc) : Prop where
  all : ∀ f ∈ m.frames, f.cls = 0 ∧ f.name = 0 ∧ 0 ≤ f.pos ∧ (f.pos < (a.length : Int) → Rch a f.pos.toNat)
  low : ∀ f ∈ m.frames.dropLast, f.pos < (a.length : Int) ∧ (insF a f.pos.toNat).1 = 17
theorem WayI.start (a : List Tx.Ins) : WayI a (startM (mainP a)) := by
  refine ⟨fun f hf => ?_, fun f hf => ?_⟩
  · simp only [startM, List.mem_singleton] at hf
    subst hf
    exact ⟨rfl, rfl, by decide, fun _ => .zero⟩
  · simp [startM] at hf
theorem last_split {α : Type} {l : List α} {x : α} (h : l.getLast? = some x) : l = l.dropLast ++ [x] := by
  obtain ⟨ys, rfl⟩ := List.getLast?_eq_some_iff.1 h
  rw [List.dropLast_concat]
theorem mem_dropLast {α : Type} {l : List α} {x : α} (h : x ∈ l.dropLast) : x ∈ l := (List.dropLast_sublist l).subset h
theorem way_end {a : List Tx.Ins} {m : Mc} {f : Fr} (hl : m.frames.getLast? = some f) (hf : (a.length : Int) ≤ f.pos) : (stepS (mainP a) m).2 = 6 := by
  unfold stepS
  rw [hl]
  dsimp only
  split
  · rfl
  · rename_i own ho
    obtain ⟨_, _, rfl⟩ := own_main ho
    rw [if_pos (.inr hf)]
theorem way_step {a : List Tx.Ins} (hok : Lay.codeOk a = true) {m : Mc} (h : WayI a m) {f : Fr} (hl : m.frames.getLast? = some f) (h0 : (stepS (mainP a) m).2 = 0) :
    WayI a (stepS (mainP a) m).1 ∧ ∀ f', (stepS (mainP a) m).1.frames.getLast? = some f' → (stepS (mainP a) m).1.frames.length = m.frames.length → f.pos + 1 < (a.length : Int) → nxB a f.pos.toNat f'.pos.toNat = true ∧ 0 ≤ f'.pos := by
  have hsp := last_split hl
  have hfm : f ∈ m.frames := by rw [hsp]; simp
  obtain ⟨f1, f2, f3, f4⟩ := h.all f hfm
  have hfl : f.pos < (a.length : Int) := by
    rcases Int.lt_or_le f.pos a.length with h1 | h1
    · exact h1
    · rw [way_end hl h1] at h0; simp at h0
  obtain ⟨k, hk⟩ := Int.eq_ofNat_of_zero_le f3
  have hkl : k < a.length := by omega
  have hkn : f.pos.toNat = k := by omega
  have hrk : Rch a k := by rw [← hkn]; exact f4 hfl
  have hstep : ∃ own, stepS (mainP a) m = stepI (mainP a) m f own (insF a k) := by
    unfold stepS at h0 ⊢
    rw [hl] at h0 ⊢
    dsimp only at h0 ⊢
    split
    · rename_i hn; rw [hn] at h0; simp at h0
    · rename_i own ho
      obtain ⟨_, _, rfl⟩ := own_main ho
      refine ⟨⟨0, [], -1, a⟩, ?_⟩
      rw [if_neg (by dsimp only; omega), hkn]
      unfold insF
      rw [List.getD_eq_getElem?_getD]
  obtain ⟨own, hs⟩ := hstep
  have hop := Lay.ok_at hok (ins_is hkl)
  have hop2 := Tx.ok_op hop
  rw [hs] at h0 ⊢
  have hdl : ∀ g ∈ m.frames.dropLast, g ∈ m.frames := fun g hg => mem_dropLast hg
  cases step_kind (mainP a) m f own (insF a k) hop2.2 hop2.1 with
  | ends he => exact absurd h0 he
  | on f' _ hfr hc hn hp =>
    have hpos : 0 ≤ f'.pos ∧ (f'.pos < (a.length : Int) → nxB a k f'.pos.toNat = true) := by
      rcases hp with ⟨hp, h11, h20⟩ | ⟨hp, hj⟩
      · refine ⟨by omega, fun hlt => ?_⟩
        rw [show f'.pos.toNat = k + 1 by omega]
        exact nx_next (by omega) h11 h20
      · have := jump_in hok hkl hj
        refine ⟨by omega, fun _ => ?_⟩
        rw [hp]
        exact nx_jump hok hkl hj
    refine ⟨⟨fun g hg => ?_, fun g hg => ?_⟩, fun g hg hlen hlt => ?_⟩
    · rw [hfr] at hg
      rcases List.mem_append.1 hg with hg | hg
      · exact h.all g (hdl g hg)
      · simp at hg; subst hg
        exact ⟨hc.trans f1, hn.trans f2, hpos.1, fun hl => .step hrk (hpos.2 hl)⟩
    · rw [hfr, List.dropLast_concat] at hg
      exact h.low g hg
    · rw [hfr, List.getLast?_concat] at hg
      injection hg with hg
      subst hg
      rw [hkn]
      refine ⟨hpos.2 ?_, hpos.1⟩
      rcases hp with ⟨hp, _⟩ | ⟨hp, hj⟩
      · omega
      · have := jump_in hok hkl hj; omega
  | call f' g _ h17 hfr hc hn hp hg ho hm =>
    have hgg : g.cls = 0 ∧ g.name = 0 ∧ g.pos = 0 := by
      obtain ⟨own', hm⟩ := hm
      obtain ⟨_, hB, _⟩ := meth_main hm
      obtain ⟨g1, g2, g3⟩ := hg
      refine ⟨?_, g1.trans hB, g2⟩
      rw [g3, hB]
      unfold objS at ho
      rw [Bool.and_eq_true] at ho
      have h2 := ho.2
      cases hh : m.heap[((f.stk[f'.stk.length]?).getD (0, 0)).2.toNat]? with
      | none => rw [hh] at h2; simp at h2
      | some o =>
        rw [hh] at h2
        simp only [Bool.and_eq_true, decide_eq_true_eq] at h2
        have h3 := h2.1.1
        have h4 := h2.1.2
        have hl1 : (mainP a).length = 1 := rfl
        rw [hl1] at h4
        have hc0 : o.cls = 0 := by omega
        simp only [Option.getD_some, hc0]
        simp [selF, upL, upF, mainP, hasM, ownF]
    refine ⟨⟨fun x hx => ?_, fun x hx => ?_⟩, fun x hx hlen _ => ?_⟩
    · rw [hfr] at hx
      rcases List.mem_append.1 hx with hx | hx
      · rcases List.mem_append.1 hx with hx | hx
        · exact h.all x (hdl x hx)
        · simp at hx; subst hx
          exact ⟨hc.trans f1, hn.trans f2, by rw [hp]; exact f3, fun _ => by rw [hp, hkn]; exact hrk⟩
      · simp at hx; subst hx
        obtain ⟨g1, g2, g3⟩ := hgg
        exact ⟨g1, g2, by rw [g3]; decide, fun _ => by rw [g3]; exact .zero⟩
    · rw [hfr, List.dropLast_concat] at hx
      rcases List.mem_append.1 hx with hx | hx
      · exact h.low x hx
      · simp at hx; subst hx
        rw [hp, hkn]
        exact ⟨hfl, h17⟩
    · rw [hfr] at hlen
      have := congrArg List.length hsp
      simp at hlen this
      omega
  | give b b' _ h20 hb hfr hc hn hp =>
    have hbl := last_split hb
    have hbm : b ∈ m.frames.dropLast := by rw [hbl]; simp
    obtain ⟨b1, b2, b3, b4⟩ := h.all b (hdl b hbm)
    obtain ⟨b5, b6⟩ := h.low b hbm
    refine ⟨⟨fun x hx => ?_, fun x hx => ?_⟩, fun x hx hlen _ => ?_⟩
    · rw [hfr] at hx
      rcases List.mem_append.1 hx with hx | hx
      · exact h.all x (hdl x (mem_dropLast hx))
      · obtain rfl : x = b' := by simpa using hx
        refine ⟨hc.trans b1, hn.trans b2, by omega, fun hlt => ?_⟩
        have hnx : nxB a b.pos.toNat (b.pos.toNat + 1) = true := nx_next (by omega) (by rw [b6]; decide) (by rw [b6]; decide)
        rw [show x.pos.toNat = b.pos.toNat + 1 by omega]
        exact .step (b4 b5) hnx
    · rw [hfr, List.dropLast_concat] at hx
      exact h.low x (by rw [hbl]; exact List.mem_append_left _ hx)
    · rw [hfr] at hlen
      have e1 := congrArg List.length hsp
      have e2 := congrArg List.length hbl
      simp at hlen e1 e2
      omega
end Pg
end Go.Proofs.Ytffkkhaiedhaiaa

/- Contracts: both sides' Straight. -/
namespace Go.Proofs.Ytffkkhaiedhaiaa
namespace Pg
open Go.ChangeShapes Go.WideShapes Go.ChangeAt Go.RowKit St

/-- None from a and 1 up to b is a leader. -/
def strB (code : List Tx.Ins) (a b : Nat) : Bool := (List.range (b - a)).all fun i => !(ldB code code.length (a + 1 + i))
def strA (l : List Tx.Ins) (a b : Int) : Bool := atB l a && (atB l b && (decide (a ≤ b) && strB l a.toNat b.toNat))
theorem ldB_mono (code : List Tx.Ins) {j : Nat} : ∀ {k m : Nat}, k ≤ m → ldB code k j = true → ldB code m j = true := by
  intro k m h
  induction h with
  | refl => exact id
  | step h ih => intro hk; simp only [ldB, ih hk, Bool.true_or]
/-- Behind a jump or OpGive there is a leader. -/
theorem end_leads {code : List Tx.Ins} {i : Nat} (hi : i + 1 < code.length) (he : endB (insF code i).1 = true) : ldB code code.length (i + 1) = true := by
  refine ldB_mono code (show i + 1 ≤ code.length by omega) ?_
  simp only [ldB, ld1, he, Bool.true_and, Bool.or_eq_true, Bool.and_eq_true, decide_eq_true_eq]
  right; right; omega
theorem ld_has {code : List Tx.Ins} (j : Nat) (hj : j < 40) : decide (((j : Nat) : Int) ∈ risL (ldB code code.length) 40) = ldB code code.length j := by
  cases h : ldB code code.length j
  · simp only [decide_eq_false_iff_not, risL_mem]
    rintro ⟨i, _, h1, h2⟩
    rw [show j = i by omega] at h
    rw [h] at h1; simp at h1
  · simp only [decide_eq_true_eq, risL_mem]
    exact ⟨j, hj, h, rfl⟩

/-- The first place of a flag that is set, among n cells from place o on. -/
def firstI (P : Nat → Bool) (o n : Nat) : Int := match (List.range n).find? (fun i => P (o + i)) with | none => -1 | some i => (i : Int)
set_option maxRecDepth 100000 in
set_option maxHeartbeats 1000000 in
theorem indexB_at (b o n cap N : Nat) (hn : n ≤ 1000) (P : Nat → Bool) (hN : o + n ≤ N) (w : World) (h : Cells w b (chi N P)) :
    Calls Try.prog 75 #[.slice (some ⟨b, o, none⟩) n cap, .bool true] w fun e w' => (∃ i : Int, e = .returned (.int .i64 i) ∧ (decide (0 ≤ i) = (List.range n).any fun i => P (o + i))) ∧ w' = w := by
  have HC : Hid (Cells w b (chi N P)) := h
  clear h
  go_enter Try.func75, Try.ntmps75
  go_wp2
  go_loopw [8] (fun i wr => ∃ k : Nat, k ≤ n ∧ i = .int .i64 (k : Int) ∧ Hid (∀ j, j < k → P (o + j) = false) ∧ wr = w) (fun i _ => n - (intOf i).toNat)
  case atStart => exact ⟨0, Nat.zero_le _, rfl, fun j hj => by omega, rfl⟩
  case round =>
    obtain ⟨k, hk, rfl, hno, rfl⟩ := hrel
    by_cases hlt : k < n
    · obtain ⟨c0, _⟩ := HC.out (o + k) _ (chi_at P (by omega))
      have hki : (k : Int) < (n : Int) := by omega
      cases hp : P (o + k)
      · rw [hp] at c0
        have HN : Hid (∀ j, j < k + 1 → P (o + j) = false) := fun j hj => by
          rcases Nat.lt_or_ge j k with h | h
          · exact hno.out j h
          · rw [show j = k by omega]; exact hp
        clear hp hno
        go_wp2
        go_roundw
        case rel => exact ⟨k + 1, by omega, by go_num, HN.out, by simp⟩
        case measure => simp [intOf]; omega
      · rw [hp] at c0
        have HY : Hid ((List.range n).any (fun i => P (o + i)) = true) := List.any_eq_true.2 ⟨k, List.mem_range.2 hlt, hp⟩
        clear hp hno
        go_wp2
        go_ret
        exact ⟨⟨_, rfl, by rw [HY.out]; simp⟩, rfl⟩
    · have HY : Hid ((List.range n).any (fun i => P (o + i)) = false) := by
        show _ = _
        rw [List.any_eq_false]
        intro i hi
        rw [hno.out i (by have := List.mem_range.1 hi; omega)]; simp
      clear hno
      go_wp2
      go_ret
      exact ⟨⟨_, rfl, by rw [HY.out]; rfl⟩, rfl⟩
set_option maxRecDepth 100000 in
set_option maxHeartbeats 1000000 in
theorem containsB_at (b o n cap N : Nat) (hn : n ≤ 1000) (P : Nat → Bool) (hN : o + n ≤ N) (w : World) (h : Cells w b (chi N P)) :
    Calls Try.prog 44 #[.slice (some ⟨b, o, none⟩) n cap, .bool true] w fun e w' => e = .returned (.bool ((List.range n).any fun i => P (o + i))) ∧ w' = w := by
  have HC : Hid (Cells w b (chi N P)) := h
  clear h
  go_enter Try.func44, Try.ntmps44
  go_wp2_with fail
  refine (indexB_at b o n cap N hn P hN w HC.out).mono ?_
  rintro e _ ⟨⟨i, rfl, hi⟩, rfl⟩
  have HI : Hid (decide (0 ≤ i) = (List.range n).any fun i => P (o + i)) := hi
  clear hi
  go_wp2
  go_ret
  exact ⟨retB (by rw [← HI.out]), rfl⟩
theorem run_sliceS (b a c : Nat) (hac : a ≤ c) (hc : c < 40) (W : World) :
    (Instr.sliceAt 67 (.pointer (some ⟨b, 0, none⟩)) (some (.int .i64 ((a : Int) + 1))) (some (.int .i64 ((c : Int) + 1))) none).run Try.prog W = .ok (.slice (some ⟨b, if 40 = a + 1 then 0 else a + 1, none⟩) (c - a) (40 - (a + 1))) W := by
  obtain ⟨i0, hi, _, hz1, _⟩ := info_parts infoB
  have hu : Try.prog.underlying 67 = some (.array (Try.prog.arrayLen 67) (Try.prog.elem 67)) := by kernel_rfl
  have e1 : Try.prog.arrayLen 67 = 40 := by kernel_rfl
  have e2 : Try.prog.elem 67 = 4 := by kernel_rfl
  rw [run_sliceAt_array_lh W _ _ hu .i64 .i64 _ _ (by omega) (by omega) (by rw [e1]; omega), e2, run_sizeOf W hi, cellsB, e1, Result.andThen_ok]
  have t1 : ((a : Int) + 1).toNat = a + 1 := by omega
  have t2 : ((c : Int) + 1).toNat = c + 1 := by omega
  have t3 : c + 1 - (a + 1) = c - a := by omega
  unfold slicedAt
  rw [t1, t2, t3]
  split
  · rfl
  · rw [Nat.mul_one, Go.WideShapes.add_plain, Nat.zero_add]
set_option maxRecDepth 100000 in
set_option maxHeartbeats 2000000 in
theorem implStraight (g cap : Nat) (l : List Tx.Ins) (n m : Int) (hl : l.length ≤ 1048576) (w : World) (hr : Row w g 0 l) :
    Calls Try.prog 13 #[.slice (some ⟨g, 0, none⟩) l.length cap, .int .i64 n, .int .i64 m] w fun e w' => e = .returned (.bool (strA l n m)) ∧ Below w.heap.size w w' := by
  have HR : Hid (Row w g 0 l) := hr
  clear hr
  go_enter Try.func13, Try.ntmps13
  go_wp2_with fail
  refine (implCodeOk g cap l hl w HR.out).mono ?_
  rintro e w1 ⟨rfl, hb1⟩
  cases hok : Lay.codeOk l
  · have HE : Hid (strA l n m = false) := by show _ = _; simp [strA, atB, hok]
    clear hok
    go_wp2
    go_ret
    exact ⟨retB HE.out.symm, hb1⟩
  · have hl40 := (Lay.ok_len hok).2
    go_wp2_with fail
    refine (isBelow n l.length w1).mono ?_
    rintro e _ ⟨rfl, rfl⟩
    cases hn : (decide (0 ≤ n) && decide (n < (l.length : Int)))
    · have HE : Hid (strA l n m = false) := by show _ = _; simp only [strA, atB, hok, hn]; rfl
      clear hok
      go_wp2
      go_ret
      exact ⟨retB HE.out.symm, hb1⟩
    · go_wp2_with fail
      refine (isBelow m l.length w1).mono ?_
      rintro e _ ⟨rfl, rfl⟩
      cases hm : (decide (0 ≤ m) && decide (m < (l.length : Int)))
      · have HE : Hid (strA l n m = false) := by show _ = _; simp only [strA, atB, hok, hn, hm]; rfl
        clear hok
        go_wp2
        go_ret
        exact ⟨retB HE.out.symm, hb1⟩
      · by_cases hnm : n ≤ m
        · have HE : Hid (strA l n m = strB l n.toNat m.toNat) := by show _ = _; simp only [strA, atB, hok, hn, hm]; simp [hnm]
          simp only [Bool.and_eq_true, decide_eq_true_eq] at hn hm
          obtain ⟨a, rfl⟩ := Int.eq_ofNat_of_zero_le hn.1
          obtain ⟨c, rfl⟩ := Int.eq_ofNat_of_zero_le hm.1
          rw [Int.toNat_natCast, Int.toNat_natCast] at HE
          have hac : a ≤ c := by omega
          have hcl : c < l.length := by omega
          have hnm' : ¬ (c : Int) < (a : Int) := by omega
          clear hn hm hnm
          go_wp2_with fail
          refine (leadersIn_at g cap l hok w1 (HR.out.on hb1)).mono ?_
          rintro e w2 ⟨rfl, hb2⟩
          have hw2 : Below w.heap.size w w2 := below_over hb1 hb2
          clear hb1 hb2 hok
          generalize hP : ldB l l.length = P at *
          have HP : Hid (ldB l l.length = P) := hP
          clear hP
          have C1L : Hid (Cells (w2.alloc (.cells (chi 40 fun _ => false).toArray 67)) w2.heap.size (chi 40 fun _ => false)) := Cells.new w2 _ rfl _ _
          have D1 : Hid (Cells ((w2.alloc (.cells (chi 40 fun _ => false).toArray 67)).setCells w2.heap.size 0 (chi 40 P)) w2.heap.size (chi 40 P)) := C1L.out.put (by rw [chi_len, chi_len])
          have hbD : Below w.heap.size w ((w2.alloc (.cells (chi 40 fun _ => false).toArray 67)).setCells w2.heap.size 0 (chi 40 P)) := below_setCells hw2.size _ _ (hw2.alloc hw2.size _)
          have hsl := run_sliceS w2.heap.size a c hac (by omega) ((w2.alloc (.cells (chi 40 fun _ => false).toArray 67)).setCells w2.heap.size 0 (chi 40 P))
          obtain ⟨o, ho⟩ : ∃ o, o = if 40 = a + 1 then 0 else a + 1 := ⟨_, rfl⟩
          rw [← ho] at hsl
          have HO : Hid (o + (c - a) ≤ 40 ∧ ∀ i, i < c - a → o + i = a + 1 + i) := by
            refine ⟨?_, fun i hi => ?_⟩
            · rw [ho]; split <;> omega
            · rw [ho, if_neg (by omega)]
          clear ho
          go_wp2_with (first
            | (with_reducible refine wpList_alloc_chi rfl 67 rfl 40 zeroS ?_)
            | (with_reducible refine wpList_store_mid rfl 67 (.tmp 8) (.tmp 32) rfl w2.heap.size 0 (chi 40 P).toArray (by simp [Act.eval, Act.put]) (by simp [Act.eval, Act.put]) (C1L.out.there (by simp [chi_len])) (by rw [infoS]; simp [chi_len]) (all_oneCell_toArray (chi_one _ _)) ?_))
          clear C1L hsl
          generalize (w2.alloc (.cells (chi 40 fun _ => false).toArray 67)).setCells w2.heap.size 0 (chi 40 P) = X at *
          refine (containsB_at w2.heap.size o (c - a) (39 - a) 40 (by omega) P HO.out.1 X D1.out).mono ?_
          rintro e _ ⟨rfl, rfl⟩
          have HF : Hid ((!((List.range (c - a)).any fun i => P (o + i))) = strA l (a : Int) (c : Int)) := by
            show _ = _
            rw [HE.out]
            unfold strB
            rw [HP.out, List.not_any_eq_all_not]
            rw [Bool.eq_iff_iff, List.all_eq_true, List.all_eq_true]
            constructor
            · intro h i hi; rw [← HO.out.2 i (List.mem_range.1 hi)]; exact h i hi
            · intro h i hi; rw [HO.out.2 i (List.mem_range.1 hi)]; exact h i hi
          go_wp2
          go_ret
          exact ⟨retB HF.out, hbD⟩
        · have HE : Hid (strA l n m = false) := by show _ = _; simp only [strA, atB, hok, hn, hm]; simp [hnm]
          have hnm' : m < n := by omega
          clear hok hn hm
          go_wp2
          go_ret
          exact ⟨retB HE.out.symm, hb1⟩
/-- No leader so far, from step a on below step i. -/
theorem strB_false {code : List Tx.Ins} {a b i : Nat} (h1 : a ≤ i) (h2 : i < b) (h : ldB code code.length (i + 1) = true) : strB code a b = false := by
  unfold strB
  rw [List.all_eq_false]
  refine ⟨i - a, List.mem_range.2 (by omega), ?_⟩
  rw [show a + 1 + (i - a) = i + 1 by omega, h]; simp
theorem strB_true {code : List Tx.Ins} {a b : Nat} (h : ∀ i, a ≤ i → i < b → ldB code code.length (i + 1) = false) : strB code a b = true := by
  unfold strB
  rw [List.all_eq_true]
  intro i hi
  have := h (a + i) (by omega) (by have := List.mem_range.1 hi; omega)
  rw [show a + 1 + i = a + i + 1 by omega, this]; rfl
set_option maxRecDepth 100000 in
set_option maxHeartbeats 2000000 in
theorem specStraight (g cap : Nat) (l : List Tx.Ins) (n m : Int) (hl : l.length ≤ 1048576) (w : World) (hr : Row w g 0 l) :
    Calls Try.prog 18 #[.slice (some ⟨g, 0, none⟩) l.length cap, .int .i64 n, .int .i64 m] w fun e w' => e = .returned (.bool (strA l n m)) ∧ Below w.heap.size w w' := by
  have HR : Hid (Row w g 0 l) := hr
  clear hr
  go_enter Try.func18, Try.ntmps18
  go_wp2_with fail
  refine (l9At_at g cap l n hl w HR.out).mono ?_
  rintro e w1 ⟨rfl, hb1⟩
  cases hn : atB l n
  · have HE : Hid (strA l n m = false) := by show _ = _; simp [strA, hn]
    clear hn
    go_wp2
    go_ret
    exact ⟨retB HE.out.symm, hb1⟩
  · go_wp2_with fail
    refine (l9At_at g cap l m hl w1 (HR.out.on hb1)).mono ?_
    rintro e w2 ⟨rfl, hb2⟩
    have hw2 : Below w.heap.size w w2 := below_over hb1 hb2
    clear hb1 hb2
    cases hm : atB l m
    · have HE : Hid (strA l n m = false) := by show _ = _; simp [strA, hm]
      clear hm hn
      go_wp2
      go_ret
      exact ⟨retB HE.out.symm, hw2⟩
    · by_cases hnm : n ≤ m
      · have HE : Hid (strA l n m = strB l n.toNat m.toNat) := by show _ = _; simp [strA, hn, hm, hnm]
        unfold atB at hn hm
        simp only [Bool.and_eq_true, decide_eq_true_eq] at hn hm
        obtain ⟨hok, hn⟩ := hn
        obtain ⟨_, hm⟩ := hm
        obtain ⟨a, rfl⟩ := Int.eq_ofNat_of_zero_le hn.1
        obtain ⟨c, rfl⟩ := Int.eq_ofNat_of_zero_le hm.1
        rw [Int.toNat_natCast, Int.toNat_natCast] at HE
        have hl40 := (Lay.ok_len hok).2
        have lg : g < w.heap.size := cell_lt (HR.out 0 _ (ins_is (Lay.ok_len hok).1)).1
        have hac : a ≤ c := by omega
        have hcl : c < l.length := by omega
        have hnm' : ¬ (c : Int) < (a : Int) := by omega
        clear hn hm hnm
        go_wp2_with fail
        refine (l9Leaders_at g cap l hok w2 (HR.out.on hw2)).mono ?_
        rintro e w3 ⟨v, rfl, hls, hb3⟩
        obtain ⟨gv, cv, rfl, hcv, hgv, hrv⟩ := hls
        have HRV : Hid (IRow w3 gv 0 (risL (ldB l l.length) 40)) := hrv
        have hw3 : Below w.heap.size w w3 := below_over hw2 hb3
        have hlr := risL_len (ldB l l.length) 40
        have R3 : Hid (Row w3 g 0 l) := HR.out.on hw3
        clear hb3 hw2 hrv
        go_wp2_with fail
        go_loopw [8] (fun i wr => ∃ k : Nat, a ≤ k ∧ k ≤ c ∧ i = .int .i64 (k : Int) ∧ Hid (∀ i, a ≤ i → i < k → ldB l l.length (i + 1) = false) ∧ wr = w3) (fun i _ => c - (intOf i).toNat)
        case atStart => exact ⟨a, Nat.le_refl _, hac, rfl, fun i h1 h2 => by omega, rfl⟩
        case round =>
          obtain ⟨k, hak, hkc, rfl, hno, rfl⟩ := hrel
          by_cases hlt : k < c
          · have hki : (k : Int) < (c : Int) := by omega
            have hkl : (k : Int) < (l.length : Int) := by omega
            obtain ⟨d0, d1, d2⟩ := R3.out k _ (ins_is (show k < l.length by omega))
            simp only [Nat.zero_add] at d0 d1 d2
            have HEN : Hid (endB (insF l k).1 = true → ldB l l.length (k + 1) = true) := end_leads (by omega)
            generalize insF l k = ins at *
            obtain ⟨op, x, y⟩ := ins
            dsimp only at d0 d1 d2 HEN
            have hld := ld_has (code := l) (k + 1) (by omega)
            have hcast : (((k + 1 : Nat)) : Int) = (k : Int) + 1 := by omega
            rw [hcast] at hld
            have HLD : Hid (decide ((k : Int) + 1 ∈ risL (ldB l l.length) 40) = ldB l l.length (k + 1)) := hld
            clear hld hcast
            go_wp2_with fail
            refine (l1Has gv cv (risL (ldB l l.length) 40) ((k : Int) + 1) (by omega) wr HRV.out).mono ?_
            rw [HLD.out]
            rintro e wr ⟨rfl, rfl⟩
            cases hL : ldB l l.length (k + 1)
            · have hNE : endB op = false := by
                cases he : endB op
                · rfl
                · have := HEN.out he; rw [hL] at this; simp at this
              have hj : Lay.jumpB op = false := by unfold endB at hNE; simp only [Bool.or_eq_false_iff] at hNE; exact hNE.1
              have h20 : (op == 20) = false := by unfold endB at hNE; simp only [Bool.or_eq_false_iff, decide_eq_false_iff_not] at hNE; simp [hNE.2]
              have HN : Hid (∀ i, a ≤ i → i < k + 1 → ldB l l.length (i + 1) = false) := fun i h1 h2 => by
                rcases Nat.lt_or_ge i k with h | h
                · exact hno.out i h1 h
                · rw [show i = k by omega]; exact hL
              clear hNE hL HEN HLD hno
              go_wp2_with fail
              refine (St.l3Jump op wr).mono ?_
              rw [hj]
              rintro e _ ⟨rfl, rfl⟩
              clear hj
              go_wp2
              go_roundw
              case rel => exact ⟨k + 1, by omega, by omega, by go_num, HN.out, by simp⟩
              case measure => simp [intOf]; omega
            · have HF : Hid (strA l (a : Int) (c : Int) = false) := by show _ = _; rw [HE.out]; exact strB_false hak hlt hL
              clear hL HEN HLD hno
              go_wp2
              go_ret
              exact ⟨retB HF.out.symm, hw3⟩
          · have HF : Hid (strA l (a : Int) (c : Int) = true) := by show _ = _; rw [HE.out]; exact strB_true fun i h1 h2 => hno.out i h1 (by omega)
            have hki : ¬ (k : Int) < (c : Int) := by omega
            clear hno
            go_wp2
            go_ret
            exact ⟨retB HF.out.symm, hw3⟩
      · have HE : Hid (strA l n m = false) := by show _ = _; simp [strA, hnm]
        have hnm' : m < n := by omega
        clear hn hm
        go_wp2
        go_ret
        exact ⟨retB HE.out.symm, hw2⟩
end Pg
end Go.Proofs.Ytffkkhaiedhaiaa
